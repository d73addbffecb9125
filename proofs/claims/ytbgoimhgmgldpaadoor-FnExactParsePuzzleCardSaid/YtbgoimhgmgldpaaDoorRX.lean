import Derived.Test.YtbgoimhgmgldpaaDoorRW
namespace Go.Proofs.YtbgoimhgmgldpaaDoor
open Go.RowKit Go.Shelf
set_option linter.unusedVariables false
set_option linter.unusedSimpArgs false

theorem toL_injz {a b : ByteArray} (h : a.toList = b.toList) : a = b := by
  rw [ByteArray.toList_eq, ByteArray.toList_eq] at h
  cases a; cases b
  exact congrArg ByteArray.mk (Array.ext' h)
theorem cuP_size (s : ByteArray) (hs : s.size ≤ 1048576) : (cuP s).size ≤ 1048576 ∧ (cuC s).size ≤ 1048576 := by
  have h : s.data.toList.length ≤ 1048576 := by simpa using hs
  have h1 : (cuP s).size = (Lib.cut s.data.toList [58]).1.length := by simp [cuP, ByteArray.size]
  have h2 : (cuC s).size = (Lib.cut s.data.toList [58]).2.1.length := by simp [cuC, ByteArray.size]
  rw [h1, h2, Lib.cut]
  split
  · simp only [List.length_take, List.length_drop]; omega
  · exact ⟨h, Nat.zero_le _⟩
theorem cut_pz (s : ByteArray) (w : World) (hs : s.size ≤ 1048576) :
    Calls Tryd.prog 18 #[.string s, .string ⟨#[58]⟩] w fun e w' => e = .returned (.tuple #[.string (cuP s), .string (cuC s), .bool (Lib.cut s.data.toList [58]).2.2]) ∧ Below w.heap.size w w' := cut17 s w hs
set_option maxRecDepth 100000 in
set_option maxHeartbeats 1600000 in
theorem impl_ParsePuzzle_c (w : World) (hL : LW w) (s : ByteArray) (hs : s.size ≤ 1048576) :
    Calls Tryd.prog 10 #[.string s] w fun en w' => en = .returned (.tuple #[.agg #[.string (ppS s), .int .i64 (ppR s)], .bool (ppB s)]) ∧ Below w.heap.size w w' := by
  obtain ⟨W, hW⟩ : ∃ W, w.alloc (.cells #[.string ⟨#[]⟩, .int .i64 0] 27) = W := ⟨_, rfl⟩
  have hb0 : W.heap[w.heap.size]? = some (.cells #[.string ⟨#[]⟩, .int .i64 0] 27 (0, 0)) := by rw [← hW]; exact heap_alloc_new _ _
  have b0 : Below w.heap.size w W := by rw [← hW]; exact (Below.refl _ _).alloc (Nat.le_refl _) _
  have zs : w.heap.size < W.heap.size := by rw [← hW]; simp
  have HW := Lib.hid hW
  have B0 := Lib.hid b0
  have HB0 := Lib.hid hb0
  have ZS := Lib.hid zs
  have HL := Lib.hid (hL.below b0)
  obtain ⟨c1, c2⟩ := cuP_size s hs
  have Hct := Lib.hid (fun W => cut_pz s W hs)
  obtain ⟨q1, q2⟩ := pp_parts s
  have Q1 := Lib.hid q1
  have Q2 := Lib.hid q2
  have HS := Lib.hid (show ppS s = if ppB s then ppA s else ⟨#[]⟩ from rfl)
  have HR := Lib.hid (show ppR s = if ppB s then ppN s else 0 from rfl)
  obtain ⟨S, hS⟩ : ∃ S, ppS s = S := ⟨_, rfl⟩
  obtain ⟨R9, hR9⟩ : ∃ R, ppR s = R := ⟨_, rfl⟩
  obtain ⟨D, hD⟩ : ∃ D, ppB s = D := ⟨_, rfl⟩
  rw [hS, hD] at HS
  rw [hR9, hD] at HR
  rw [hD] at Q1 Q2
  rw [hS, hR9, hD]
  have Hno : Hid (D = false → S = ⟨#[]⟩ ∧ R9 = 0) := fun h => ⟨by rw [HS.out, h]; rfl, by rw [HR.out, h]; rfl⟩
  have Hyes : Hid (D = true → S = ppA s ∧ R9 = ppN s) := fun h => ⟨by rw [HS.out, h]; rfl, by rw [HR.out, h]; rfl⟩
  obtain ⟨P, hP⟩ : ∃ P, cuP s = P := ⟨_, rfl⟩
  obtain ⟨C, hC⟩ : ∃ C, cuC s = C := ⟨_, rfl⟩
  rw [hP] at Hct Q1 c1
  rw [hC] at Hct Q1 Q2 c2
  obtain ⟨F, hF⟩ : ∃ F, (Lib.cut s.data.toList [58]).2.2 = F := ⟨_, rfl⟩
  rw [hF] at Hct
  clear hL hW b0 hb0 zs q1 q2 HS HR hS hR9 hD hP hC hF
  by_cases hok : ∃ u, Lib.atoiAll C.data.toList = .ok u
  rotate_left
  · have HD := Lib.hid (Q2.out hok)
    have HE := Lib.hid (Hno.out HD.out)
    have Hat := Lib.hid (fun W hL => atoi_bad C W hL c2 hok)
    clear hok
    go_enter Tryd.func10, Tryd.ntmps10
    go_wp2_with fail
    rw [HW.out]
    refine (Hct.out _).mono ?_
    rintro e w2 ⟨rfl, b2⟩
    have HB2 := (b2.block w.heap.size ZS.out).trans HB0.out
    have z2 : w.heap.size < w2.heap.size := Nat.lt_of_lt_of_le ZS.out b2.size
    have B2 := Lib.hid (B0.out.trans (b2.mono B0.out.size))
    have HL2 := Lib.hid (HL.out.below b2)
    go_wp2_with fail
    refine (Hat.out _ HL2.out).mono ?_
    rintro e w3 ⟨⟨u, te, pe, rfl⟩, b3⟩
    have HB3 := (b3.block w.heap.size z2).trans HB2
    have B3 := Lib.hid (B2.out.trans (b3.mono B2.out.size))
    have hc0 : w3.cell? ⟨w.heap.size, 0, none⟩ = some (.string ⟨#[]⟩) := cell_of_row w3 w.heap.size 0 _ _ _ HB3
    have hc1 : w3.cell? ⟨w.heap.size, 1, none⟩ = some (.int .i64 0) := cell_of_row w3 w.heap.size 1 _ _ _ HB3
    have hf := fun k => frozen_of_row w3 w.heap.size k _ _ HB3
    clear HB2 HB3 b2 b3
    go_wp2
    refine bodyPost_ret (v := .tuple #[.agg #[.string ⟨#[]⟩, .int .i64 0], .bool false]) (by rw [results_cell_tmp rfl]; go_simp) rfl ⟨by rw [HE.out.1, HE.out.2, HD.out], ?_⟩
    first | exact B3.out | exact (B3.out.setCell (Nat.le_refl _) _).setCell (Nat.le_refl _) _
  obtain ⟨R, hR⟩ := hok
  obtain ⟨q3, q4⟩ := Q1.out R hR
  have Q3 := Lib.hid q3
  have Q4 := Lib.hid q4
  have Hat := Lib.hid (fun W => atoi_ok C W c2 hR)
  have Hpt := Lib.hid (fun W => impl_PuzzleText_c W P R (by omega))
  have VX : Hid (pzB P R = true → ptxV P R = ptxT P R) := fun h => ptxV_yes h
  have VN : Hid (pzB P R = false → ptxV P R = ⟨#[]⟩) := fun h => ptxV_no h
  obtain ⟨G, hG⟩ : ∃ G, pzB P R = G := ⟨_, rfl⟩
  obtain ⟨X, hX⟩ : ∃ X, ptxV P R = X := ⟨_, rfl⟩
  rw [hG] at Q3 Hpt VX VN
  rw [hX] at Hpt VX VN
  have hDX : D = (G && decide (X = s)) ∨ (G = false ∧ D = false) := by
    cases hg : G with
    | false => right; exact ⟨rfl, by rw [Q3.out, hg]; rfl⟩
    | true => left; rw [Q3.out, hg, VX.out hg]
  clear q3 q4 hR hG hX
  cases hg : G with
  | false =>
    have HD : Hid (D = false) := by
      rcases hDX with h | h
      · show D = false; rw [h, hg]; rfl
      · exact h.2
    have HE := Lib.hid (Hno.out HD.out)
    rw [hg] at Hpt
    clear hDX hg
    go_enter Tryd.func10, Tryd.ntmps10
    go_wp2_with fail
    rw [HW.out]
    refine (Hct.out _).mono ?_
    rintro e w2 ⟨rfl, b2⟩
    have HB2 := (b2.block w.heap.size ZS.out).trans HB0.out
    have z2 : w.heap.size < w2.heap.size := Nat.lt_of_lt_of_le ZS.out b2.size
    have B2 := Lib.hid (B0.out.trans (b2.mono B0.out.size))
    go_wp2_with fail
    refine (Hat.out _).mono ?_
    rintro e w3 ⟨rfl, b3⟩
    have HB3 := (b3.block w.heap.size z2).trans HB2
    have z3 : w.heap.size < w3.heap.size := Nat.lt_of_lt_of_le z2 b3.size
    have B3 := Lib.hid (B2.out.trans (b3.mono B2.out.size))
    have bV : Below w3.heap.size w3 (w3.alloc (.cells #[.string P, .int .i64 R] 27)) := (Below.refl _ _).alloc (Nat.le_refl _) _
    have PV := BoxP.new w3 (.string P) (.int .i64 R) 27
    have HB4 := Lib.hid ((bV.block w.heap.size z3).trans HB3)
    have B4 := Lib.hid (B3.out.trans (bV.mono B3.out.size))
    have z4 := Lib.hid (Nat.lt_of_lt_of_le z3 bV.size)
    have HPV := Lib.hid PV
    clear HB2 HB3 b2 b3 bV PV
    go_wp2_with fail
    refine (Hpt.out _).mono ?_
    rintro e w5 ⟨rfl, b5⟩
    have HB5 := (b5.block w.heap.size z4.out).trans HB4.out
    have P5 := HPV.out.below b5
    have d0 := P5.1
    have d1 := P5.2.1
    have B5 := Lib.hid (B4.out.trans (b5.mono B4.out.size))
    have hc0 : w5.cell? ⟨w.heap.size, 0, none⟩ = some (.string ⟨#[]⟩) := cell_of_row w5 w.heap.size 0 _ _ _ HB5
    have hc1 : w5.cell? ⟨w.heap.size, 1, none⟩ = some (.int .i64 0) := cell_of_row w5 w.heap.size 1 _ _ _ HB5
    have hf := fun k => frozen_of_row w5 w.heap.size k _ _ HB5
    clear HB5 b5 P5
    go_wp2
    refine bodyPost_ret (v := .tuple #[.agg #[.string ⟨#[]⟩, .int .i64 0], .bool false]) (by rw [results_cell_tmp rfl]; go_simp) rfl ⟨by rw [HE.out.1, HE.out.2, HD.out], ?_⟩
    first | exact B5.out | exact (B5.out.setCell (Nat.le_refl _) _).setCell (Nat.le_refl _) _
  | true =>
    have hDX2 : D = decide (X = s) := by
      rcases hDX with h | h
      · rw [h, hg]; rfl
      · rw [hg] at h; exact Bool.noConfusion h.1
    rw [hg] at Hpt
    by_cases hx : X = s
    · have HD : Hid (D = true) := by show D = true; rw [hDX2]; exact decide_eq_true hx
      have HE : Hid (S = P ∧ R9 = R) := by
        obtain ⟨h1, h2⟩ := Hyes.out HD.out
        obtain ⟨h3, h4⟩ := Q4.out HD.out
        exact ⟨h1.trans h3, h2.trans h4⟩
      subst hx
      clear hDX hDX2 hg
      go_enter Tryd.func10, Tryd.ntmps10
      go_wp2_with fail
      rw [HW.out]
      refine (Hct.out _).mono ?_
      rintro e w2 ⟨rfl, b2⟩
      have HB2 := (b2.block w.heap.size ZS.out).trans HB0.out
      have z2 : w.heap.size < w2.heap.size := Nat.lt_of_lt_of_le ZS.out b2.size
      have B2 := Lib.hid (B0.out.trans (b2.mono B0.out.size))
      go_wp2_with fail
      refine (Hat.out _).mono ?_
      rintro e w3 ⟨rfl, b3⟩
      have HB3 := (b3.block w.heap.size z2).trans HB2
      have z3 : w.heap.size < w3.heap.size := Nat.lt_of_lt_of_le z2 b3.size
      have B3 := Lib.hid (B2.out.trans (b3.mono B2.out.size))
      have bV : Below w3.heap.size w3 (w3.alloc (.cells #[.string P, .int .i64 R] 27)) := (Below.refl _ _).alloc (Nat.le_refl _) _
      have PV := BoxP.new w3 (.string P) (.int .i64 R) 27
      have HB4 := Lib.hid ((bV.block w.heap.size z3).trans HB3)
      have B4 := Lib.hid (B3.out.trans (bV.mono B3.out.size))
      have z4 := Lib.hid (Nat.lt_of_lt_of_le z3 bV.size)
      have HPV := Lib.hid PV
      clear HB2 HB3 b2 b3 bV PV
      go_wp2_with fail
      refine (Hpt.out _).mono ?_
      rintro e w5 ⟨rfl, b5⟩
      have HB5 := (b5.block w.heap.size z4.out).trans HB4.out
      have P5 := HPV.out.below b5
      have d0 := P5.1
      have d1 := P5.2.1
      have B5 := Lib.hid (B4.out.trans (b5.mono B4.out.size))
      have hc0 : w5.cell? ⟨w.heap.size, 0, none⟩ = some (.string ⟨#[]⟩) := cell_of_row w5 w.heap.size 0 _ _ _ HB5
      have hc1 : w5.cell? ⟨w.heap.size, 1, none⟩ = some (.int .i64 0) := cell_of_row w5 w.heap.size 1 _ _ _ HB5
      have hf := fun k => frozen_of_row w5 w.heap.size k _ _ HB5
      clear HB5 b5 P5
      go_wp2
      refine bodyPost_ret (v := .tuple #[.agg #[.string P, .int .i64 R], .bool true]) (by rw [results_cell_tmp rfl]; go_simp) rfl ⟨by rw [HE.out.1, HE.out.2, HD.out], ?_⟩
      exact (B5.out.setCell (Nat.le_refl _) _).setCell (Nat.le_refl _) _
    · have HD : Hid (D = false) := by show D = false; rw [hDX2]; exact decide_eq_false hx
      have HE := Lib.hid (Hno.out HD.out)
      have hx1 : (X.toList == s.toList) = false := beq_eq_false_iff_ne.2 fun e => hx (toL_injz e)
      clear hDX hDX2 hg
      go_enter Tryd.func10, Tryd.ntmps10
      go_wp2_with fail
      rw [HW.out]
      refine (Hct.out _).mono ?_
      rintro e w2 ⟨rfl, b2⟩
      have HB2 := (b2.block w.heap.size ZS.out).trans HB0.out
      have z2 : w.heap.size < w2.heap.size := Nat.lt_of_lt_of_le ZS.out b2.size
      have B2 := Lib.hid (B0.out.trans (b2.mono B0.out.size))
      go_wp2_with fail
      refine (Hat.out _).mono ?_
      rintro e w3 ⟨rfl, b3⟩
      have HB3 := (b3.block w.heap.size z2).trans HB2
      have z3 : w.heap.size < w3.heap.size := Nat.lt_of_lt_of_le z2 b3.size
      have B3 := Lib.hid (B2.out.trans (b3.mono B2.out.size))
      have bV : Below w3.heap.size w3 (w3.alloc (.cells #[.string P, .int .i64 R] 27)) := (Below.refl _ _).alloc (Nat.le_refl _) _
      have PV := BoxP.new w3 (.string P) (.int .i64 R) 27
      have HB4 := Lib.hid ((bV.block w.heap.size z3).trans HB3)
      have B4 := Lib.hid (B3.out.trans (bV.mono B3.out.size))
      have z4 := Lib.hid (Nat.lt_of_lt_of_le z3 bV.size)
      have HPV := Lib.hid PV
      clear HB2 HB3 b2 b3 bV PV
      go_wp2_with fail
      refine (Hpt.out _).mono ?_
      rintro e w5 ⟨rfl, b5⟩
      have HB5 := (b5.block w.heap.size z4.out).trans HB4.out
      have P5 := HPV.out.below b5
      have d0 := P5.1
      have d1 := P5.2.1
      have B5 := Lib.hid (B4.out.trans (b5.mono B4.out.size))
      have hc0 : w5.cell? ⟨w.heap.size, 0, none⟩ = some (.string ⟨#[]⟩) := cell_of_row w5 w.heap.size 0 _ _ _ HB5
      have hc1 : w5.cell? ⟨w.heap.size, 1, none⟩ = some (.int .i64 0) := cell_of_row w5 w.heap.size 1 _ _ _ HB5
      have hf := fun k => frozen_of_row w5 w.heap.size k _ _ HB5
      clear HB5 b5 P5
      go_wp2
      refine bodyPost_ret (v := .tuple #[.agg #[.string ⟨#[]⟩, .int .i64 0], .bool false]) (by rw [results_cell_tmp rfl]; go_simp) rfl ⟨by rw [HE.out.1, HE.out.2, HD.out], ?_⟩
      first | exact B5.out | exact (B5.out.setCell (Nat.le_refl _) _).setCell (Nat.le_refl _) _

end Go.Proofs.YtbgoimhgmgldpaaDoor
