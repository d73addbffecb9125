import Derived.Test.YtoapidcbmlnjcaaIA
import Derived.Test.YtoapidcbmlnjcaaIB
import Derived.Test.YtoapidcbmlnjcaaI5
import Derived.Test.YtoapidcbmlnjcaaQ2
namespace Go.Proofs.Ytoapidcbmlnjcaa
open Go.RowKit
set_option linter.unusedVariables false
set_option linter.unusedSimpArgs false

theorem nmC_front {rs : List (Int × Int)} (h : perOk rs = true) {i : Nat} (hi : i < (gpA rs).length) : ivL (nmC rs true) i = ivL (gpA rs) i := by
  have hl : (flF (lfQ rs) 0 (perF rs).toNat).length = (gpA rs).length := by rw [gpA_ok h]
  rw [nmC, nmQ_true, cyL, ivL, List.getD_eq_getElem?_getD, List.getElem?_append_left (by omega), gpA_ok h, ivL, List.getD_eq_getElem?_getD]
theorem rec_last {rs : List (Int × Int)} (h : gpO rs = true) : ∃ l, (recP (nmC rs true) (gpGA rs) (gpA rs).length).2 = l ++ [(lgN rs, lgV rs)] := by
  obtain ⟨h1, h2⟩ := gpO_parts h
  obtain ⟨k, hk⟩ : ∃ k, (gpA rs).length = k + 1 := ⟨(gpA rs).length - 1, by omega⟩
  have hb := bgI_lt (gpGA rs) (k := k + 1) (by omega)
  obtain ⟨_, l, e⟩ := recP_best (xs := nmC rs true) (gs := gpGA rs) (k := k) fun i hi => gpGA_pos h (by omega)
  refine ⟨l, ?_⟩
  rw [hk, e, lgN_yes h, lgV_yes h, hk, nmC_front h1 (by omega)]
set_option maxRecDepth 100000 in
set_option maxHeartbeats 1000000 in
theorem longestGap_c (W : World) (B : Nat) (vb vl : Value) (rs : List (Int × Int)) (ho : gpO rs = true) (hl : OwnI W B vl (nmC rs true)) :
    Calls Try.prog 77 #[.agg #[vb, vl]] W fun en w' => en = .returned (.agg #[.int .i64 (lgN rs), .int .i64 (lgV rs)]) ∧ Below W.heap.size W w' := by
  have hp := (gpO_parts ho).1
  have hlen := nmC_len hp
  obtain ⟨A, c, rfl, _⟩ := own_row hl
  have hA := Il_of_own hl
  have h9 := gpA_len rs
  obtain ⟨l, hlast⟩ := rec_last ho
  obtain ⟨n, hn⟩ : ∃ n, (nmC rs true).length = n := ⟨_, rfl⟩
  rw [hn] at hlen ⊢
  have HR := Lib.hid (fun w (hA : Il w A (nmC rs true)) => recordsBetween_c w A n c (nmC rs true) hA hn.symm (by omega) (fun j hj => nmC_bound ho j (by omega)))
  have he : dfL (nmC rs true) (n - 1) = gpGA rs := by rw [hlen, Nat.add_sub_cancel]; exact nmC_left ho
  have he2 : n - 1 = (gpA rs).length := by omega
  rw [he, he2] at HR
  have hle := recP_len (nmC rs true) (gpGA rs) (gpA rs).length
  obtain ⟨R, hR⟩ : ∃ R, (recP (nmC rs true) (gpGA rs) (gpA rs).length).2 = R := ⟨_, rfl⟩
  rw [hR] at HR hlast hle
  obtain ⟨N, hN⟩ : ∃ N, lgN rs = N := ⟨_, rfl⟩
  obtain ⟨V, hV⟩ : ∃ V, lgV rs = V := ⟨_, rfl⟩
  rw [hN, hV] at hlast ⊢
  have HL : Hid (R.length = l.length + 1) := by show _ = _; rw [hlast]; simp
  have HLast : Hid (evL R l.length = N ∧ reL R l.length = V) := by
    show _ ∧ _
    rw [hlast]; simp [evL, reL]
  have hl9 : l.length ≤ 100000 := by have := HL.out; omega
  obtain ⟨q, hq⟩ : ∃ q, l.length = q := ⟨_, rfl⟩
  rw [hq] at HL HLast hl9
  have HA := Lib.hid hA
  clear hl hA hp ho hn hlen he he2 hle hR hN hV hlast hq h9
  go_enter Try.func77, Try.ntmps77
  go_wp2_with fail
  refine (HR.out _ (HA.out.below (((Below.refl _ _).alloc (Nat.le_refl _) _).alloc (by simp) _))).mono ?_
  rintro e w2 ⟨⟨v2, rfl, o2⟩, b2⟩
  have hb2 : Below W.heap.size W w2 := (((Below.refl _ _).alloc (Nat.le_refl _) _).alloc (by simp) _).trans (b2.mono (by simp; omega))
  obtain ⟨g, c2, rfl, hg1, hg2, hc⟩ := o2.cells (by have := HL.out; omega)
  rw [HL.out] at hc ⊢
  obtain ⟨h1, h2⟩ := hc q (by omega)
  rw [HLast.out.1] at h1
  rw [HLast.out.2] at h2
  have hT2 : w2.heap[W.heap.size + 1]? = some (.cells #[.int .i64 0, .int .i64 0] 77 (0, 0)) := by
    refine (b2.block _ (by simp)).trans ?_
    have := heap_alloc_new (W.alloc (.cells #[vb, .slice A n c] 75)) (.cells #[.int .i64 0, .int .i64 0] 77)
    rwa [World.size_alloc] at this
  have ta2 : w2.cell? ⟨W.heap.size + 1, 0, none⟩ = some (.int .i64 0) := cell_of_row _ _ 0 _ _ _ hT2
  have tb2 : w2.cell? ⟨W.heap.size + 1, 1, none⟩ = some (.int .i64 0) := cell_of_row _ _ 1 _ _ _ hT2
  have tf2 : w2.frozen? ⟨W.heap.size + 1, 0, none⟩ = false := frozen_of_row _ _ _ _ _ hT2
  have tg2 : w2.frozen? ⟨W.heap.size + 1, 1, none⟩ = false := frozen_of_row _ _ _ _ _ hT2
  clear hT2 hc o2
  go_wp2
  refine bodyPost_ret (v := .agg #[.int .i64 N, .int .i64 V]) (by rw [results_cell1 rfl]; go_simp) rfl ⟨rfl, ?_⟩
  exact (hb2.setCell (p := ⟨W.heap.size + 1, 0, none⟩) (by show W.heap.size ≤ W.heap.size + 1; omega) _).setCell (p := ⟨W.heap.size + 1, 1, none⟩) (by show W.heap.size ≤ W.heap.size + 1; omega) _
set_option maxRecDepth 100000 in
set_option maxHeartbeats 800000 in
theorem impl_LongestGap_c (w : World) (A : Option Addr) (m c : Nat) (rs : List (Int × Int)) (hA : Rl w A rs) (hm : m = rs.length) (hn : m ≤ 1048576) :
    Calls Try.prog 33 #[.slice A m c] w fun en w' => en = .returned (.tuple #[.int .i64 (lgV rs), .int .i64 (lgN rs), .bool (gpO rs)]) ∧ Below w.heap.size w w' := by
  have HD := Lib.hid (doorG_c w A m c rs hA hm hn 77 #[] (fun _ _ => rfl) (gpO rs) (lgN rs) (lgV rs) (fun h => h) (fun h => ⟨lgN_no h, lgV_no h⟩) (fun ho W vb vl hb hB hv => (longestGap_c W _ vb vl rs ho hv).mono fun e w' h => ⟨.inl ⟨ho, h.1⟩, h.2⟩))
  clear hA hm
  go_enter Try.func33, Try.ntmps33
  go_wp2_with fail
  refine HD.out.mono ?_
  rintro e w2 ⟨rfl, b2⟩
  go_wp2_with fail
  go_quiet (fail)
  go_wp2
  go_ret3
  exact ⟨rfl, below_drewN (b2.alloc b2.size _) _⟩
set_option maxRecDepth 100000 in
set_option maxHeartbeats 800000 in
theorem longestRunOut_c (W : World) (B : Nat) (vb vl : Value) (rs : List (Int × Int)) (ho : gpO rs = true) (hl : OwnI W B vl (nmC rs true)) :
    Calls Try.prog 81 #[.agg #[vb, vl]] W fun en w' => en = .returned (.int .i64 (roV rs)) ∧ Below W.heap.size W w' := by
  obtain ⟨hp, hpos⟩ := gpO_parts ho
  have hlen := nmC_len hp
  obtain ⟨A, c, rfl, _⟩ := own_row hl
  have hA := Il_of_own hl
  have h9 := gpA_len rs
  obtain ⟨n, hn⟩ : ∃ n, (nmC rs true).length = n := ⟨_, rfl⟩
  rw [hn] at hlen ⊢
  have hR := fun w (hA : Il w A (nmC rs true)) => longestRunBetween_c w A n c (nmC rs true) hA hn.symm (by omega) (by omega) (fun j hj => nmC_bound ho j (by omega))
  have he : dfL (nmC rs true) (n - 1) = gpGA rs := by rw [hlen, Nat.add_sub_cancel]; exact nmC_left ho
  have he2 : n - 1 = (gpA rs).length := by omega
  rw [he, he2, mxO_is (gpGA rs) hpos (fun i hi => gpGA_pos ho hi), ← roV_yes ho] at hR
  have HR := Lib.hid hR
  have HA := Lib.hid hA
  clear hl hA hp ho hn hlen he he2 hR h9 hpos
  go_enter Try.func81, Try.ntmps81
  go_wp2_with fail
  refine (HR.out _ (HA.out.below ((Below.refl _ _).alloc (Nat.le_refl _) _))).mono ?_
  rintro e w2 ⟨rfl, b2⟩
  go_wp2
  go_ret
  exact ⟨rfl, (Below.refl _ _).alloc (Nat.le_refl _) _ |>.trans (b2.mono (by simp))⟩
set_option maxRecDepth 100000 in
set_option maxHeartbeats 800000 in
theorem impl_LongestRunOut_c (w : World) (A : Option Addr) (m c : Nat) (rs : List (Int × Int)) (hA : Rl w A rs) (hm : m = rs.length) (hn : m ≤ 1048576) :
    Calls Try.prog 42 #[.slice A m c] w fun en w' => en = .returned (.tuple #[.int .i64 (roV rs), .bool (gpO rs)]) ∧ Below w.heap.size w w' := by
  have HD := Lib.hid (doorI_c w A m c rs hA hm hn 81 #[] (fun _ _ => rfl) (gpO rs) (roV rs) (fun h => h) (fun h => roV_no h) (fun ho W vb vl hb hB hv => (longestRunOut_c W _ vb vl rs ho hv).mono fun e w' h => ⟨.inl ⟨ho, h.1⟩, h.2⟩))
  clear hA hm
  go_enter Try.func42, Try.ntmps42
  go_wp2_with fail
  refine HD.out.mono ?_
  rintro e w2 ⟨rfl, b2⟩
  go_wp2
  go_ret2
  exact ⟨rfl, b2⟩
theorem left_nil (n : Int) : leftF [] n = true := by rw [left_iff]; intro r h; cases h
theorem nmL_nl (rs : List (Int × Int)) : outN rs = (nlF (fun n => lfQ rs n == false) (perF rs).toNat).length := by rw [outN_nl, nmQ_false]
set_option maxRecDepth 100000 in
set_option maxHeartbeats 800000 in
theorem longestRunLeft_c (W : World) (vb : Value) (Al : Option Addr) (nl cl : Nat) (rs : List (Int × Int)) (ho : gpO rs = true) (hB : BoolsAt W vb (perF rs).toNat (lfQ rs)) :
    Calls Try.prog 82 #[.agg #[vb, .slice Al nl cl]] W fun en w' => (rlO rs = true ∧ en = .returned (.int .i64 (rlV rs)) ∨ rlO rs = false ∧ en = .panicked empP) ∧ Below W.heap.size W w' := by
  obtain ⟨hp, hpos⟩ := gpO_parts ho
  obtain ⟨_, _, p1, p2⟩ := perOk_parts hp
  have hN := fun w (hB : BoolsAt w vb (perF rs).toNat (lfQ rs)) => numbersThat_yes w vb Al nl cl (perF rs).toNat (lfQ rs) (by omega) (by omega) hB false
  have hNo := fun w (hB : BoolsAt w vb (perF rs).toNat (lfQ rs)) => numbersThat_no w vb Al nl cl (perF rs).toNat (lfQ rs) (by omega) (by omega) hB false
  rw [← nmL_nl] at hN hNo
  obtain ⟨g, cb, rfl, hg, hcb⟩ := hB
  have hB1 : BoolsAt (W.alloc (.cells #[.slice (some ⟨g, 0, none⟩) (perF rs).toNat cb, .slice Al nl cl] 75)) (.slice (some ⟨g, 0, none⟩) (perF rs).toNat cb) (perF rs).toNat (lfQ rs) :=
    BoolsAt.below ⟨g, cb, rfl, hg, hcb⟩ ((Below.refl _ _).alloc (Nat.le_refl _) _)
  have HB1 := Lib.hid hB1
  obtain ⟨w1, hw1⟩ : ∃ w1, W.alloc (.cells #[.slice (some ⟨g, 0, none⟩) (perF rs).toNat cb, .slice Al nl cl] 75) = w1 := ⟨_, rfl⟩
  have b1 : Below W.heap.size W w1 := by rw [← hw1]; exact (Below.refl _ _).alloc (Nat.le_refl _) _
  have hr1 : w1.heap[W.heap.size]? = some (.cells #[.slice (some ⟨g, 0, none⟩) (perF rs).toNat cb, .slice Al nl cl] 75 (0, 0)) := by rw [← hw1]; exact heap_alloc_new W _
  have c1 : w1.cell? ⟨W.heap.size, 0, none⟩ = some (.slice (some ⟨g, 0, none⟩) (perF rs).toNat cb) := cell_of_row _ _ 0 _ _ _ hr1
  have c2 : w1.cell? ⟨W.heap.size, 1, none⟩ = some (.slice Al nl cl) := cell_of_row _ _ 1 _ _ _ hr1
  rw [hw1] at HB1
  have Hw1 := Lib.hid hw1
  clear hB1 hcb hr1 hw1
  by_cases hz : 0 < rs.length
  · have hout := outN_pos hp hz
    have hro : rlO rs = true := by rw [rlO, ho, decide_eq_true hz]; rfl
    have hrun := runLeft_is ho hout
    have hrw : rlW rs = rlV rs := by rw [rlV, hro]; rfl
    rw [hrw] at hrun
    have HN := Lib.hid (hN w1 HB1.out hout)
    have hq : (nmC rs false).length = outN rs + 1 := by rw [nmC, cyL_len, nmL_nl]
    have hbd : ∀ i, i < outN rs + 1 → 0 ≤ ivL (nmC rs false) i ∧ ivL (nmC rs false) i ≤ 300000 := fun i hi => by
      have h2 := hout
      rw [nmL_nl] at h2 hi
      have := cyL_bound (p := fun n => lfQ rs n == false) (P := (perF rs).toNat) h2 (i := i) (by omega)
      rw [nmC]
      omega
    have ho9 : outN rs ≤ 100000 := by
      have := flF_len (fun n => lfQ rs n == false) 0 (perF rs).toNat
      rw [outN, nmL]; omega
    have hM : ∀ w A c, Il w A (nmC rs false) → Calls Try.prog 111 #[.slice A (outN rs + 1) c] w fun en w' => en = .returned (.int .i64 (rlV rs)) ∧ Below w.heap.size w w' := fun w A c hA => by
      have h := longestRunBetween_c w A (outN rs + 1) c (nmC rs false) hA hq.symm (by omega) (by omega) hbd
      rw [Nat.add_sub_cancel, hrun] at h
      exact h
    have HM := Lib.hid hM
    have HC : Hid (cyL (fun n => lfQ rs n == false) (perF rs).toNat = nmC rs false) := rfl
    have HQ := Lib.hid hq
    have HRO := Lib.hid hro
    clear hN hNo hout hro hrun hrw hq hbd ho9 hM ho hpos hp hz
    go_enter Try.func82, Try.ntmps82
    go_wp2_with fail
    rw [Hw1.out]
    refine HN.out.mono ?_
    rintro e w2 ⟨⟨v2, rfl, o2⟩, b2⟩
    rw [HC.out] at o2
    obtain ⟨A2, c2, rfl, _⟩ := own_row o2
    rw [HQ.out] at o2 ⊢
    have HO := Lib.hid (Il_of_own o2)
    clear o2
    go_wp2_with fail
    refine (HM.out _ _ _ HO.out).mono ?_
    rintro e w3 ⟨rfl, b3⟩
    go_wp2
    go_ret
    exact ⟨.inl ⟨HRO.out, rfl⟩, (b1.trans (b2.mono b1.size)).trans (b3.mono (Nat.le_trans b1.size b2.size))⟩
  · have hrs : rs = [] := List.eq_nil_of_length_eq_zero (by omega)
    have hro : rlO rs = false := by rw [rlO, decide_eq_false hz, Bool.and_false]
    have hout : outN rs = 0 := by subst hrs; exact outN_none hp left_nil
    have HN := Lib.hid (hNo w1 HB1.out hout)
    have HRO := Lib.hid hro
    clear hN hNo hout hro ho hpos hp hz hrs
    go_enter Try.func82, Try.ntmps82
    go_wp2_with fail
    rw [Hw1.out]
    refine HN.out.mono ?_
    rintro e w2 ⟨rfl, b2⟩
    exact ⟨rfl, .inr ⟨HRO.out, rfl⟩, b1.trans (b2.mono b1.size)⟩
set_option maxRecDepth 100000 in
set_option maxHeartbeats 800000 in
theorem impl_LongestRunLeft_c (w : World) (A : Option Addr) (m c : Nat) (rs : List (Int × Int)) (hA : Rl w A rs) (hm : m = rs.length) (hn : m ≤ 1048576) :
    Calls Try.prog 44 #[.slice A m c] w fun en w' => en = .returned (.tuple #[.int .i64 (rlV rs), .bool (rlO rs)]) ∧ Below w.heap.size w w' := by
  have HD := Lib.hid (doorI_c w A m c rs hA hm hn 82 #[] (fun _ _ => rfl) (rlO rs) (rlV rs) (fun h => by rw [rlO, h]; rfl) (fun h => by rw [rlV, h]; rfl) (fun ho W vb vl hb hB hv => by
    obtain ⟨Al, cl, rfl, _⟩ := own_row hv
    exact longestRunLeft_c W vb Al _ cl rs ho hB))
  clear hA hm
  go_enter Try.func44, Try.ntmps44
  go_wp2_with fail
  refine HD.out.mono ?_
  rintro e w2 ⟨rfl, b2⟩
  go_wp2
  go_ret2
  exact ⟨rfl, b2⟩

end Go.Proofs.Ytoapidcbmlnjcaa
