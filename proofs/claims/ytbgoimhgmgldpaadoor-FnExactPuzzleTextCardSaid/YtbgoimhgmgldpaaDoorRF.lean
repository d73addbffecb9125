import Derived.Test.YtbgoimhgmgldpaaDoorRE
import Derived.Test.YtbgoimhgmgldpaaDoorR1
import Derived.Laws.ResultCell
import Derived.Deep.RegionHeld3
namespace Go.Proofs.YtbgoimhgmgldpaaDoor
open Go.RowKit
set_option linter.unusedVariables false
set_option linter.unusedSimpArgs false

theorem spO_small (s : ByteArray) (b : Nat) : ∀ k, ∀ x ∈ (spO s b k).1, x.size ≤ s.size
  | 0, x, h => by cases h
  | k + 1, x, h => by
    by_cases hb : byN s k = b
    · rw [spO_cut hb] at h
      rcases List.mem_append.1 h with h | h
      · exact spO_small s b k x h
      · rw [List.mem_singleton] at h
        rw [h, ByteArray.size_extract]
        omega
    · rw [spO_on hb] at h
      exact spO_small s b k x h
theorem splitL_small {s : ByteArray} {b : Nat} {x : ByteArray} (h : x ∈ splitL s b) : x.size ≤ s.size := by
  rw [splitL] at h
  rcases List.mem_append.1 h with h | h
  · exact spO_small s b _ x h
  · rw [List.mem_singleton] at h
    rw [h, ByteArray.size_extract]
    omega
theorem splitL_at (s : ByteArray) (b i : Nat) : ((splitL s b).getD i ⟨#[]⟩).size ≤ s.size := by
  rw [List.getD_eq_getElem?_getD]
  rcases Nat.lt_or_ge i (splitL s b).length with h | h
  · rw [List.getElem?_eq_getElem h]
    exact splitL_small (List.getElem_mem h)
  · rw [List.getElem?_eq_none h]
    exact Nat.zero_le _
def ppA (s : ByteArray) : ByteArray := (splitL s 58).getD 0 ⟨#[]⟩
def ppN (s : ByteArray) : Int := rdN ((splitL s 58).getD 1 ⟨#[]⟩)
def ppB (s : ByteArray) : Bool := decide (s.size ≤ 50) && decide ((splitL s 58).length = 2) && pzB (ppA s) (ppN s)
def ppS (s : ByteArray) : ByteArray := if ppB s then ppA s else ⟨#[]⟩
def ppR (s : ByteArray) : Int := if ppB s then ppN s else 0
set_option maxRecDepth 100000 in
set_option maxHeartbeats 2000000 in
theorem spec_ParsePuzzle_c (w : World) (s : ByteArray) (hs : (s.size : Int) ≤ 1000000000) :
    Calls Tryd.prog 9 #[.string s] w fun en w' => en = .returned (.tuple #[.agg #[.string (ppS s), .int .i64 (ppR s)], .bool (ppB s)]) ∧ Below w.heap.size w w' := by
  have Hsp := Lib.hid (fun W => l1Split_c W s 58 hs)
  obtain ⟨W0, hW0⟩ : ∃ W0, w.alloc (.cells #[.string ⟨#[]⟩, .int .i64 0] 27) = W0 := ⟨_, rfl⟩
  have B0 : Hid (Below w.heap.size w W0) := by show Below _ _ _; rw [← hW0]; exact (Below.refl _ _).alloc (Nat.le_refl _) _
  have R0 : Hid (W0.heap[w.heap.size]? = some (.cells #[.string ⟨#[]⟩, .int .i64 0] 27 (0, 0))) := by show _ = _; rw [← hW0]; exact heap_alloc_new _ _
  have Z0 : Hid (W0.heap.size = w.heap.size + 1) := by show _ = _; rw [← hW0]; simp
  have HW0 := Lib.hid hW0
  have hBd : ppB s = (decide (s.size ≤ 50) && decide ((splitL s 58).length = 2) && pzB (ppA s) (ppN s)) := rfl
  have hSn : ppB s = false → ppS s = ⟨#[]⟩ ∧ ppR s = 0 := fun h => by rw [ppS, ppR, h]; exact ⟨rfl, rfl⟩
  have hSy : ppB s = true → ppS s = ppA s ∧ ppR s = ppN s := fun h => by rw [ppS, ppR, h]; exact ⟨rfl, rfl⟩
  obtain ⟨S, hS⟩ : ∃ S, ppS s = S := ⟨_, rfl⟩
  obtain ⟨R, hR⟩ : ∃ R, ppR s = R := ⟨_, rfl⟩
  rw [hS, hR] at hSn hSy ⊢
  have hp0 : (ppA s).size ≤ s.size := splitL_at s 58 0
  have hp1 : ((splitL s 58).getD 1 ⟨#[]⟩).size ≤ s.size := splitL_at s 58 1
  have Hrd := Lib.hid (fun W => l1Read_c W ((splitL s 58).getD 1 ⟨#[]⟩) (by omega))
  have Hpg := Lib.hid (fun W n => pzGood_c W (ppA s) n (by omega))
  have HN : Hid (rdN ((splitL s 58).getD 1 ⟨#[]⟩) = ppN s) := rfl
  have HPA : Hid ((splitL s 58).getD 0 ⟨#[]⟩ = ppA s) := rfl
  obtain ⟨L, hL⟩ : ∃ L, splitL s 58 = L := ⟨_, rfl⟩
  have hLl := splitL_len s 58
  rw [hL] at hBd hLl HN HPA Hrd Hsp hp1
  rw [HN.out] at Hrd
  obtain ⟨p, hp⟩ : ∃ p, ppA s = p := ⟨_, rfl⟩
  obtain ⟨u, hu⟩ : ∃ u, L.getD 1 ⟨#[]⟩ = u := ⟨_, rfl⟩
  obtain ⟨m, hm⟩ : ∃ m, ppN s = m := ⟨_, rfl⟩
  obtain ⟨T, hT⟩ : ∃ T, ppB s = T := ⟨_, rfl⟩
  rw [hp] at hBd HPA Hpg hSy
  rw [hm] at hBd Hrd hSy
  rw [hu] at Hrd
  rw [hT] at hBd hSn hSy ⊢
  have Sn := Lib.hid hSn
  have Sy := Lib.hid hSy
  have HU := Lib.hid hu
  clear hL hp hu hm hT hW0 hS hR hSn hSy hp0 hp1 HN
  go_enter Tryd.func9, Tryd.ntmps9
  go_wp2_with fail
  rw [HW0.out]
  refine (Hsp.out _).mono ?_
  rintro e w2 ⟨⟨v, rfl, o2⟩, b2⟩
  obtain ⟨A, c, rfl⟩ := OwnS.shape o2
  have O2 := Lib.hid o2
  have B2 := Lib.hid (B0.out.trans (b2.mono B0.out.size))
  have r2 := (b2.block w.heap.size (by rw [Z0.out]; omega)).trans R0.out
  have Z2 : Hid (w.heap.size < w2.heap.size) := by show _ < _; have := b2.size; rw [Z0.out] at this; omega
  have R2 := Lib.hid r2
  have hc0 : w2.cell? ⟨w.heap.size, 0, none⟩ = some (.string ⟨#[]⟩) := cell_of_row w2 w.heap.size 0 _ _ _ r2
  have hc1 : w2.cell? ⟨w.heap.size, 1, none⟩ = some (.int .i64 0) := cell_of_row w2 w.heap.size 1 _ _ _ r2
  have hf := fun k => frozen_of_row w2 w.heap.size k _ _ r2
  clear o2 b2 r2 HW0
  by_cases h50 : s.size ≤ 50
  rotate_left
  · have HT : Hid (T = false) := by show _ = _; rw [hBd, decide_eq_false h50]; rfl
    have h50i : (50 : Int) < (s.size : Int) := by omega
    clear hBd h50
    go_wp2
    refine bodyPost_ret (v := .tuple #[.agg #[.string ⟨#[]⟩, .int .i64 0], .bool false]) (by rw [results_cell_tmp rfl]; go_simp) rfl ⟨by rw [(Sn.out HT.out).1, (Sn.out HT.out).2, HT.out], ?_⟩
    first | exact B2.out | exact (B2.out.setCell (Nat.le_refl _) _).setCell (Nat.le_refl _) _
  have h50i : (s.size : Int) ≤ 50 := by omega
  obtain ⟨l, hl⟩ : ∃ l, L.length = l := ⟨_, rfl⟩
  rw [hl] at hBd hLl ⊢
  have Hl := Lib.hid hl
  clear hl
  by_cases h2 : l = 2
  rotate_left
  · have HT : Hid (T = false) := by show _ = _; rw [hBd, decide_eq_false h2, Bool.and_false]; rfl
    have h2i : ((l : Int) == 2) = false := beq_eq_false_iff_ne.2 (by omega)
    have h2j : ((l : Int) != 2) = true := by rw [bne, h2i]; rfl
    have h2n : (l == 2) = false := beq_eq_false_iff_ne.2 h2
    clear hBd h2
    go_wp2
    refine bodyPost_ret (v := .tuple #[.agg #[.string ⟨#[]⟩, .int .i64 0], .bool false]) (by rw [results_cell_tmp rfl]; go_simp) rfl ⟨by rw [(Sn.out HT.out).1, (Sn.out HT.out).2, HT.out], ?_⟩
    first | exact B2.out | exact (B2.out.setCell (Nat.le_refl _) _).setCell (Nat.le_refl _) _
  subst h2
  have HBB : Hid (T = pzB p m) := by show _ = _; rw [hBd, decide_eq_true h50, decide_eq_true rfl]; rfl
  obtain ⟨g, rfl, g1, g2, g3⟩ := OwnS.cell O2.out (j := 0) (by rw [Hl.out]; omega)
  obtain ⟨g', hg', _, _, g4⟩ := OwnS.cell O2.out (j := 1) (by rw [Hl.out]; omega)
  obtain rfl : g = g' := by cases hg'; rfl
  rw [HPA.out] at g3
  rw [HU.out] at g4
  have g3d : w2.drew.cell? ⟨g, 0, none⟩ = some (.string p) := g3
  have g4d : w2.drew.cell? ⟨g, 1, none⟩ = some (.string u) := g4
  have hne : g ≠ w2.heap.size := Nat.ne_of_lt g2
  have hz2 : w.heap.size < w2.heap.size := Z2.out
  obtain ⟨U, hU⟩ : ∃ U, w2.alloc (.cells #[.string p, .int .i64 m] 27) = U := ⟨_, rfl⟩
  have HUb : Hid (Below w.heap.size w U) := by show Below _ _ _; rw [← hU]; exact B2.out.alloc B2.out.size _
  have HUr : Hid (U.drew.heap[w.heap.size]? = some (.cells #[.string ⟨#[]⟩, .int .i64 0] 27 (0, 0))) := by show U.heap[_]? = _; rw [← hU]; exact (Below.heap_alloc w2 _ _ hz2).trans R2.out
  have HUs : Hid (w2.heap.size < U.drew.heap.size) := by show _ < U.heap.size; rw [← hU]; simp
  have HUz : Hid (w.heap.size < U.drew.heap.size) := Nat.lt_trans hz2 HUs.out
  have HU0 : Hid (U.drew.cell? ⟨w2.heap.size, 0, none⟩ = some (.string p)) := by show U.cell? _ = _; rw [← hU]; simp
  have HU1 : Hid (U.drew.cell? ⟨w2.heap.size, 1, none⟩ = some (.int .i64 m)) := by show U.cell? _ = _; rw [← hU]; simp
  have HU2 := Lib.hid hU
  have h50d : decide (50 < (s.size : Int)) = false := decide_eq_false (by omega)
  clear hBd hg' g1 hc0 hc1 hf hU
  cases hB : pzB p m with
  | false =>
    rw [hB] at HBB
    have HT : Hid (T = false) := HBB.out
    have Hpg2 := Lib.hid (fun W => Hpg.out W m)
    rw [hB] at Hpg2
    clear hB Hpg
    go_wp2_with fail
    go_region_held3 (fun w' => w'.cell? ⟨g, 0, none⟩ = some (.string p) ∧ w'.cell? ⟨g, 1, none⟩ = some (.string u))
      (first | exact ⟨g3d, g4d⟩ | exact ⟨g3, g4⟩ | go_keep)
      (first | (go_at_call 17; refine (Hrd.out _).mono ?_; rintro e w5 ⟨rfl, rfl⟩))
    all_goals (
      rw [HU2.out]
      have hu0 : U.cell? ⟨w2.heap.size, 0, none⟩ = some (.string p) := HU0.out
      have hu1 : U.cell? ⟨w2.heap.size, 1, none⟩ = some (.int .i64 m) := HU1.out
      have hu2 : U.drew.cell? ⟨w2.heap.size, 0, none⟩ = some (.string p) := HU0.out
      have hu3 : U.drew.cell? ⟨w2.heap.size, 1, none⟩ = some (.int .i64 m) := HU1.out
      go_wp2_with fail
      clear hu0 hu1 hu2 hu3
      refine (Hpg2.out _).mono ?_
      rintro e w6 ⟨rfl, b6⟩
      have r6 := (b6.block w.heap.size HUz.out).trans HUr.out
      have hc0 : w6.cell? ⟨w.heap.size, 0, none⟩ = some (.string ⟨#[]⟩) := cell_of_row w6 w.heap.size 0 _ _ _ r6
      have hc1 : w6.cell? ⟨w.heap.size, 1, none⟩ = some (.int .i64 0) := cell_of_row w6 w.heap.size 1 _ _ _ r6
      have hf := fun k => frozen_of_row w6 w.heap.size k _ _ r6
      have hx0 := (b6.cell (p := ⟨w2.heap.size, 0, none⟩) HUs.out).trans HU0.out
      have hx1 := (b6.cell (p := ⟨w2.heap.size, 1, none⟩) HUs.out).trans HU1.out
      have B6 := Lib.hid (HUb.out.drew.trans (b6.mono HUb.out.drew.size))
      clear r6 b6
      go_wp2
      refine bodyPost_ret (v := .tuple #[.agg #[.string ⟨#[]⟩, .int .i64 0], .bool false]) (by rw [results_cell_tmp rfl]; go_simp) rfl ⟨by rw [(Sn.out HT.out).1, (Sn.out HT.out).2, HT.out], ?_⟩
      first | exact B6.out | exact (B6.out.setCell (Nat.le_refl _) _).setCell (Nat.le_refl _) _)
  | true =>
    rw [hB] at HBB
    have HT : Hid (T = true) := HBB.out
    have Hpg2 := Lib.hid (fun W => Hpg.out W m)
    rw [hB] at Hpg2
    clear hB Hpg
    go_wp2_with fail
    go_region_held3 (fun w' => w'.cell? ⟨g, 0, none⟩ = some (.string p) ∧ w'.cell? ⟨g, 1, none⟩ = some (.string u))
      (first | exact ⟨g3d, g4d⟩ | exact ⟨g3, g4⟩ | go_keep)
      (first | (go_at_call 17; refine (Hrd.out _).mono ?_; rintro e w5 ⟨rfl, rfl⟩))
    all_goals (
      rw [HU2.out]
      have hu0 : U.cell? ⟨w2.heap.size, 0, none⟩ = some (.string p) := HU0.out
      have hu1 : U.cell? ⟨w2.heap.size, 1, none⟩ = some (.int .i64 m) := HU1.out
      have hu2 : U.drew.cell? ⟨w2.heap.size, 0, none⟩ = some (.string p) := HU0.out
      have hu3 : U.drew.cell? ⟨w2.heap.size, 1, none⟩ = some (.int .i64 m) := HU1.out
      go_wp2_with fail
      clear hu0 hu1 hu2 hu3
      refine (Hpg2.out _).mono ?_
      rintro e w6 ⟨rfl, b6⟩
      have r6 := (b6.block w.heap.size HUz.out).trans HUr.out
      have hc0 : w6.cell? ⟨w.heap.size, 0, none⟩ = some (.string ⟨#[]⟩) := cell_of_row w6 w.heap.size 0 _ _ _ r6
      have hc1 : w6.cell? ⟨w.heap.size, 1, none⟩ = some (.int .i64 0) := cell_of_row w6 w.heap.size 1 _ _ _ r6
      have hf := fun k => frozen_of_row w6 w.heap.size k _ _ r6
      have hx0 := (b6.cell (p := ⟨w2.heap.size, 0, none⟩) HUs.out).trans HU0.out
      have hx1 := (b6.cell (p := ⟨w2.heap.size, 1, none⟩) HUs.out).trans HU1.out
      have B6 := Lib.hid (HUb.out.drew.trans (b6.mono HUb.out.drew.size))
      clear r6 b6
      go_wp2
      refine bodyPost_ret (v := .tuple #[.agg #[.string p, .int .i64 m], .bool true]) (by rw [results_cell_tmp rfl]; go_simp) rfl ⟨by rw [(Sy.out HT.out).1, (Sy.out HT.out).2, HT.out], ?_⟩
      exact (B6.out.setCell (Nat.le_refl _) _).setCell (Nat.le_refl _) _)
end Go.Proofs.YtbgoimhgmgldpaaDoor
