import Derived.Test.YtbgoimhgmgldpaaRI
import Derived.Test.YtbgoimhgmgldpaaR7
import Derived.StillTailTactics
import Derived.IntWalk
namespace Go.Proofs.Ytbgoimhgmgldpaa
open Go.RowKit
set_option linter.unusedVariables false
set_option linter.unusedSimpArgs false

theorem mkR_good (n : Nat) : ∀ (f z : Nat) (rs : List (Int × Int)), (∀ x ∈ rs, 2 ≤ x.1 ∧ x.1 ≤ 60 ∧ 0 ≤ x.2 ∧ x.2 < x.1) → rs.length ≤ n →
    (∀ x ∈ mkR n f z rs, 2 ≤ x.1 ∧ x.1 ≤ 60 ∧ 0 ≤ x.2 ∧ x.2 < x.1) ∧ (mkR n f z rs).length ≤ n
  | 0, _, rs, h, hl => ⟨h, hl⟩
  | f + 1, z, rs, h, hl => by
    by_cases hlt : rs.length < n
    · cases hh : hsR rs ((nz z % 9 + 2 : Nat) : Int) ((nz (nz z) % (nz z % 9 + 2) : Nat) : Int) with
      | true =>
        rw [mkR_old hlt rfl rfl hh]
        exact mkR_good n f _ rs h hl
      | false =>
        rw [mkR_new hlt rfl rfl hh]
        refine mkR_good n f _ _ (fun x hx => ?_) (by rw [List.length_append]; exact hlt)
        rcases List.mem_append.1 hx with hx | hx
        · exact h x hx
        · obtain rfl := List.mem_singleton.1 hx
          have h1 := Nat.mod_lt (nz (nz z)) (show 0 < nz z % 9 + 2 by omega)
          have h2 := Nat.mod_lt (nz z) (show 0 < 9 by omega)
          refine ⟨?_, ?_, ?_, ?_⟩ <;> simp only <;> omega
    · rw [mkR_stop hlt]; exact ⟨h, hl⟩
theorem pair_at4 {L : List (Int × Int)} {q : Nat} (h : q < L.length) : L[q] = (evL L q, reL L q) := by
  rw [evL, reL, List.getD_eq_getElem?_getD, List.getElem?_eq_getElem h]; rfl
theorem mk_goodL {N Z : Nat} (h3 : N ≤ 3) : goodL (mkR N 20 Z []) = true ∧ (mkR N 20 Z []).length ≤ N := by
  obtain ⟨h1, h2⟩ := mkR_good N 20 Z [] (fun x hx => by cases hx) (Nat.zero_le _)
  refine ⟨goodL_true (by omega) fun k hk => ?_, h2⟩
  have := h1 _ (List.getElem_mem hk)
  rw [pair_at4 hk] at this
  rw [okAt, okR_true]
  exact this
set_option maxRecDepth 100000 in
set_option maxHeartbeats 800000 in
theorem indexR_c (w : World) (A : Option Addr) (m c : Nat) (rs : List (Int × Int)) (hA : Rl w A rs) (hm : m = rs.length) (hn : m ≤ 1048576) (e r : Int) :
    Calls Try.prog 127 #[.slice A m c, .agg #[.int .i64 e, .int .i64 r]] w fun en w' => (∃ t : Int, en = .returned (.int .i64 t) ∧ hsR rs e r = decide (0 ≤ t)) ∧ Below w.heap.size w w' := by
  have Hm := Lib.hid hm
  clear hm
  have Hyes := Lib.hid (fun k hk => hsR_yes (rs := rs) (e := e) (r := r) (k := k) hk)
  have Hno := Lib.hid (hsR_no (rs := rs) (e := e) (r := r))
  obtain ⟨T, hT⟩ : ∃ T, hsR rs e r = T := ⟨_, rfl⟩
  rw [hT] at Hyes Hno ⊢
  clear hT
  have HA := Lib.hid hA
  clear hA
  go_enter Try.func127, Try.ntmps127
  go_wp2
  go_loopw [8] (fun i wr => ∃ k : Nat, k ≤ m ∧ i = .int .i64 (k : Int) ∧ (∀ j, j < k → ¬ (evL rs j = e ∧ reL rs j = r)) ∧ wr.cell? ⟨w.heap.size, 0, none⟩ = some (.int .i64 e) ∧ wr.cell? ⟨w.heap.size, 1, none⟩ = some (.int .i64 r) ∧ Below w.heap.size w wr) (fun i _ => m - (intOf i).toNat)
  case atStart => exact ⟨0, Nat.zero_le _, rfl, fun j h => by omega, by simp, by simp, (Below.refl _ _).alloc (Nat.le_refl _) _⟩
  case round =>
    obtain ⟨k, hk, rfl, hall, hc0, hc1, hbel⟩ := hrel
    have Hall := Lib.hid hall
    clear hall
    by_cases hlt : k < m
    · have hlt1 : k < rs.length := by have := Hm.out; omega
      obtain ⟨b, off, rfl, hb, hr⟩ := HA.out (by omega)
      have hx0 := (hbel.cell (p := ⟨b, off + k * 2, none⟩) hb).trans (hr k hlt1).1
      have hx1 := (hbel.cell (p := ⟨b, off + k * 2 + 1, none⟩) hb).trans (hr k hlt1).2
      have Hy := Lib.hid (Hyes.out k hlt1)
      obtain ⟨x, hx⟩ : ∃ x, evL rs k = x := ⟨_, rfl⟩
      obtain ⟨y, hy⟩ : ∃ y, reL rs k = y := ⟨_, rfl⟩
      rw [hx] at hx0 Hy
      rw [hy] at hx1 Hy
      have HX := Lib.hid (show evL rs k = x ∧ reL rs k = y from ⟨hx, hy⟩)
      have heq := eq_rule e r x y
      have hkm : (k : Int) < (m : Int) := by omega
      have Hc0 := Lib.hid hc0
      have Hc1 := Lib.hid hc1
      by_cases he : e = x ∧ r = y
      · rw [decide_eq_true he] at heq
        have HT := Lib.hid (Hy.out he.1.symm he.2.symm)
        clear hx hy he
        go_wp2_with fail
        go_still_tail 5, (by kernel_rfl)
        go_wp2
        go_ret
        exact ⟨⟨_, rfl, by rw [HT.out, decide_eq_true (by omega)]⟩, hbel.drew⟩
      · rw [decide_eq_false he] at heq
        have HN := Lib.hid (fun (h : evL rs k = e ∧ reL rs k = r) => he (by rw [← HX.out.1, ← HX.out.2]; exact ⟨h.1.symm, h.2.symm⟩))
        clear hx hy he
        go_wp2_with fail
        go_still_tail 5, (by kernel_rfl)
        go_wp2
        go_roundw
        case rel => exact ⟨k + 1, by omega, by go_num, fun j hj => by
          rcases Nat.lt_succ_iff_lt_or_eq.1 hj with h | h
          · exact Hall.out j h
          · rw [h]; exact HN.out, Hc0.out, Hc1.out, hbel.drew⟩
        case measure => simp [intOf]; omega
    · have HT := Lib.hid (Hno.out fun j hj => Hall.out j (by have := Hm.out; omega))
      go_wp2
      go_ret
      exact ⟨⟨_, rfl, by rw [HT.out]; rfl⟩, hbel⟩
set_option maxRecDepth 100000 in
set_option maxHeartbeats 800000 in
theorem containsR_c (w : World) (A : Option Addr) (m c : Nat) (rs : List (Int × Int)) (hA : Rl w A rs) (hm : m = rs.length) (hn : m ≤ 1048576) (e r : Int) :
    Calls Try.prog 101 #[.slice A m c, .agg #[.int .i64 e, .int .i64 r]] w fun en w' => en = .returned (.bool (hsR rs e r)) ∧ Below w.heap.size w w' := by
  obtain ⟨W, hW⟩ : ∃ W, w.alloc (.cells #[.int .i64 e, .int .i64 r] 53) = W := ⟨_, rfl⟩
  have b0 : Below w.heap.size w W := by rw [← hW]; exact (Below.refl _ _).alloc (Nat.le_refl _) _
  have c0 : W.cell? ⟨w.heap.size, 0, none⟩ = some (.int .i64 e) := by rw [← hW]; simp
  have c1 : W.cell? ⟨w.heap.size, 1, none⟩ = some (.int .i64 r) := by rw [← hW]; simp
  have HW := Lib.hid hW
  have HA := Lib.hid (hA.below b0)
  have Hm := Lib.hid hm
  have B0 := Lib.hid b0
  clear hA hm hW b0
  go_enter Try.func101, Try.ntmps101
  go_wp2_with fail
  rw [HW.out]
  refine (indexR_c W A m c rs HA.out Hm.out hn e r).mono ?_
  rintro en w2 ⟨⟨t, rfl, ht⟩, b2⟩
  have Ht := Lib.hid ht
  clear ht
  go_wp2
  go_ret
  exact ⟨by rw [Ht.out]; rfl, B0.out.trans (b2.mono B0.out.size)⟩
set_option maxRecDepth 100000 in
set_option maxHeartbeats 400000 in
theorem seedBehind_c (z : Nat) (w : World) (hz : z ≤ 10006) :
    Calls Try.prog 129 #[.int .i64 (z : Int)] w fun en w' => en = .returned (.int .i64 (nz z : Int)) ∧ w = w' := by
  have ez : ((z : Int) * 177 + 2221) % 10007 = ((nz z : Nat) : Int) := by rw [nz]; omega
  have h1 : (0 : Int) ≤ (z : Int) * 177 + 2221 := by omega
  have ez2 : ((z : Int) * 177 + 2221).tmod 10007 = ((nz z : Nat) : Int) := by rw [Int.tmod_eq_emod_of_nonneg h1]; exact ez
  go_enter Try.func129, Try.ntmps129
  go_wp2
  go_ret
  exact ⟨by first | rfl | (rw [ez]; rfl) | (rw [ez2]; rfl) | (simp only [ez]; rfl), rfl⟩
set_option maxRecDepth 100000 in
set_option maxHeartbeats 800000 in
theorem ruleBehind_c (z : Nat) (w : World) (hz : z ≤ 10006) :
    Calls Try.prog 103 #[.int .i64 (z : Int)] w fun en w' => en = .returned (.tuple #[.agg #[.int .i64 ((nz z % 9 + 2 : Nat) : Int), .int .i64 ((nz (nz z) % (nz z % 9 + 2) : Nat) : Int)], .int .i64 ((nz (nz z) : Nat) : Int)]) ∧ Below w.heap.size w w' := by
  obtain ⟨W, hW⟩ : ∃ W, w.alloc (.cells #[.int .i64 0, .int .i64 0] 53) = W := ⟨_, rfl⟩
  have hb0 : W.heap[w.heap.size]? = some (.cells #[.int .i64 0, .int .i64 0] 53 (0, 0)) := by rw [← hW]; exact heap_alloc_new _ _
  have b0 : Below w.heap.size w W := by rw [← hW]; exact (Below.refl _ _).alloc (Nat.le_refl _) _
  have hc0 : W.cell? ⟨w.heap.size, 0, none⟩ = some (.int .i64 0) := cell_of_row W w.heap.size 0 _ _ _ hb0
  have hc1 : W.cell? ⟨w.heap.size, 1, none⟩ = some (.int .i64 0) := cell_of_row W w.heap.size 1 _ _ _ hb0
  have hf := fun k => frozen_of_row W w.heap.size k _ _ hb0
  have HW := Lib.hid hW
  have B0 := Lib.hid b0
  have hz1 := nz_lt z
  have hz2 := nz_lt (nz z)
  have Hs1 := Lib.hid (fun W => seedBehind_c z W hz)
  have Hs2 := Lib.hid (fun W => seedBehind_c (nz z) W (by omega))
  obtain ⟨a, ha⟩ : ∃ a, nz z = a := ⟨_, rfl⟩
  rw [ha] at hz1 hz2 Hs1 Hs2 ⊢
  obtain ⟨b, hb⟩ : ∃ b, nz a = b := ⟨_, rfl⟩
  rw [hb] at hz2 Hs2 ⊢
  obtain ⟨e, he⟩ : ∃ e, a % 9 + 2 = e := ⟨_, rfl⟩
  rw [he]
  have hei : (a : Int) % 9 + 2 = (e : Int) := by omega
  have he2 : 2 ≤ e ∧ e ≤ 10 := by omega
  obtain ⟨q, hq⟩ : ∃ q, b % e = q := ⟨_, rfl⟩
  rw [hq]
  have hqi : (b : Int) % (e : Int) = (q : Int) := by rw [← hq, Int.natCast_emod]
  have hze : ((e : Int) == 0) = false := beq_eq_false_iff_ne.2 (by omega)
  clear ha hb he hq hW b0 hb0
  go_enter Try.func103, Try.ntmps103
  go_wp2_with fail
  rw [HW.out]
  refine (Hs1.out _).mono ?_
  rintro en w1 ⟨rfl, rfl⟩
  go_wp2_with fail
  refine (Hs2.out _).mono ?_
  rintro en w1 ⟨rfl, rfl⟩
  go_wp2
  refine bodyPost_ret (v := .tuple #[.agg #[.int .i64 (e : Int), .int .i64 (q : Int)], .int .i64 (b : Int)]) (by rw [results_cell_tmp rfl]; go_simp) rfl ⟨rfl, ?_⟩
  exact (B0.out.setCell (Nat.le_refl _) _).setCell (Nat.le_refl _) _
set_option maxRecDepth 100000 in
set_option maxHeartbeats 1600000 in
theorem rulesOfSeed_c (N Z : Nat) (w : World) (N9 : N ≤ 3) (Z9 : Z ≤ 9999) :
    Calls Try.prog 85 #[.int .i64 (N : Int), .int .i64 (Z : Int)] w fun en w' => (∃ v, en = .returned (.tuple #[v, .bool (decide (¬ (mkR N 20 Z []).length < N))]) ∧ OwnR w' w.heap.size v (mkR N 20 Z [])) ∧ Below w.heap.size w w' := by
  obtain ⟨T, hT⟩ : ∃ T, mkR N 20 Z [] = T := ⟨_, rfl⟩
  have hTl : T.length ≤ N := by rw [← hT]; exact (mk_goodL N9).2
  rw [hT]
  obtain ⟨D, hD⟩ : ∃ D, decide (¬ T.length < N) = D := ⟨_, rfl⟩
  rw [hD]
  have HDD := Lib.hid hD
  have HT := Lib.hid hT
  have HTl := Lib.hid hTl
  clear hT hTl hD
  go_enter Try.func85, Try.ntmps85
  go_wp2
  go_loopw [6, 7, 8] (fun v zz i wr => ∃ (k z : Nat) (rs : List (Int × Int)) (A : Option Addr) (c l : Nat), zz = .int .i64 (z : Int) ∧ v = .slice A l c ∧ l = rs.length ∧ k ≤ 20 ∧ i = .int .i64 (k : Int) ∧ z ≤ 10006 ∧ l ≤ N ∧ mkR N (20 - k) z rs = T ∧ OwnR wr w.heap.size (.slice A l c) rs ∧ Below w.heap.size w wr) (fun _ _ i _ => 20 - (intOf i).toNat)
  case atStart => exact ⟨0, Z, [], none, 0, 0, rfl, rfl, rfl, by omega, rfl, by omega, Nat.zero_le _, HT.out, World.ownsRow_nil _ _ _ _, Below.refl _ _⟩
  case round =>
    obtain ⟨k, z, rs, A, c, l, rfl, rfl, hl, hk, rfl, hz, hlN, hmk, hown, hbel⟩ := hrel
    have Hown := Lib.hid hown
    have Hmk := Lib.hid hmk
    have Hl := Lib.hid hl
    have hs := hbel.size
    clear hown hmk hl
    by_cases hlt : k < 20 ∧ l < N
    · obtain ⟨hlt1, hlt2⟩ := hlt
      have hk20 : (k : Int) < 20 := by omega
      have hlNi : (l : Int) < (N : Int) := by omega
      have hz1 := nz_lt z
      have hz2 := nz_lt (nz z)
      have Hrb := Lib.hid (fun W => ruleBehind_c z W hz)
      have Hold := Lib.hid (fun e q => mkR_old (n := N) (f := 20 - k - 1) (z := z) (e := e) (q := q) (rs := rs) (by have := Hl.out; omega))
      have Hnew := Lib.hid (fun e q => mkR_new (n := N) (f := 20 - k - 1) (z := z) (e := e) (q := q) (rs := rs) (by have := Hl.out; omega))
      have HE : Hid (2 ≤ nz z % 9 + 2) := by show _ ≤ _; omega
      obtain ⟨e, he⟩ : ∃ e, nz z % 9 + 2 = e := ⟨_, rfl⟩
      rw [he] at Hrb
      obtain ⟨b, hb⟩ : ∃ b, nz (nz z) = b := ⟨_, rfl⟩
      rw [hb] at hz2 Hold Hnew Hrb
      obtain ⟨q, hq⟩ : ∃ q, b % e = q := ⟨_, rfl⟩
      rw [hq] at Hrb
      have Ho := Lib.hid (Hold.out e q he hq)
      have Hn2 := Lib.hid (Hnew.out e q he hq)
      have Hs1 : Hid (mkR N (20 - k - 1 + 1) z rs = T) := by show _ = _; rw [show 20 - k - 1 + 1 = 20 - k by omega]; exact Hmk.out
      rw [show 20 - k - 1 = 20 - (k + 1) by omega] at Ho Hn2 Hs1
      obtain ⟨U, hU⟩ : ∃ U, wr.alloc (.cells #[.int .i64 0, .int .i64 0] 53) = U := ⟨_, rfl⟩
      have hub0 : U.heap[wr.heap.size]? = some (.cells #[.int .i64 0, .int .i64 0] 53 (0, 0)) := by rw [← hU]; exact heap_alloc_new _ _
      have hus : wr.heap.size < U.heap.size := by rw [← hU]; simp
      have hub : Below wr.heap.size wr U := by rw [← hU]; exact (Below.refl _ _).alloc (Nat.le_refl _) _
      have HU := Lib.hid hU
      have Hub0 := Lib.hid hub0
      have Hus := Lib.hid hus
      have Hub := Lib.hid hub
      clear hub0 hus hub hU he hb hq Hold Hnew hz1
      go_wp2_with fail
      rw [HU.out]
      refine (Hrb.out _).mono ?_
      rintro en w5 ⟨rfl, b5⟩
      have r5 := (b5.block wr.heap.size Hus.out).trans Hub0.out
      have hz0 : w5.cell? ⟨wr.heap.size, 0, none⟩ = some (.int .i64 0) := cell_of_row w5 wr.heap.size 0 _ _ _ r5
      have hz1 : w5.cell? ⟨wr.heap.size, 1, none⟩ = some (.int .i64 0) := cell_of_row w5 wr.heap.size 1 _ _ _ r5
      have hfz := fun k => frozen_of_row w5 wr.heap.size k _ _ r5
      have Hb5 : Hid (Below wr.heap.size wr w5) := Hub.out.trans (b5.mono Hub.out.size)
      have Hv0 : Hid (((w5.setCell ⟨wr.heap.size, 0, none⟩ (.int .i64 (e : Int))).setCell ⟨wr.heap.size, 1, none⟩ (.int .i64 (q : Int))).cell? ⟨wr.heap.size, 0, none⟩ = some (.int .i64 (e : Int))) := by
        show _ = _
        rw [World.cell?_setCell_other _ _ _ _ (by simp)]
        exact World.cell?_setCell_same _ _ _ hz0
      have Hv1 : Hid (((w5.setCell ⟨wr.heap.size, 0, none⟩ (.int .i64 (e : Int))).setCell ⟨wr.heap.size, 1, none⟩ (.int .i64 (q : Int))).cell? ⟨wr.heap.size, 1, none⟩ = some (.int .i64 (q : Int))) := by
        show _ = _
        exact World.cell?_setCell_same _ _ _ (by rw [World.cell?_setCell_other _ _ _ _ (by simp)]; exact hz1)
      have Hvb : Hid (Below wr.heap.size wr ((w5.setCell ⟨wr.heap.size, 0, none⟩ (.int .i64 (e : Int))).setCell ⟨wr.heap.size, 1, none⟩ (.int .i64 (q : Int)))) := (Hb5.out.setCell (Nat.le_refl _) _).setCell (Nat.le_refl _) _
      have Hvs : Hid (wr.heap.size < ((w5.setCell ⟨wr.heap.size, 0, none⟩ (.int .i64 (e : Int))).setCell ⟨wr.heap.size, 1, none⟩ (.int .i64 (q : Int))).heap.size) := by
        show _ < _
        have := Nat.lt_of_lt_of_le Hus.out b5.size
        simpa using this
      obtain ⟨V, hV⟩ : ∃ V, (w5.setCell ⟨wr.heap.size, 0, none⟩ (.int .i64 (e : Int))).setCell ⟨wr.heap.size, 1, none⟩ (.int .i64 (q : Int)) = V := ⟨_, rfl⟩
      rw [hV] at Hv0 Hv1 Hvb Hvs
      have HV := Lib.hid hV
      have Hov : Hid (OwnR V w.heap.size (.slice A l c) rs) := own_below Hown.out Hvb.out
      have HwV : Hid (Below w.heap.size w V) := hbel.trans (Hvb.out.mono hs)
      have Hc := Lib.hid (containsR_c V A l c rs (Rl_of_own Hov.out Hl.out) Hl.out (by omega) (e : Int) (q : Int))
      clear hV r5 b5
      cases hh : hsR rs (e : Int) (q : Int) with
      | true =>
        have HT2 : Hid (mkR N (20 - (k + 1)) b rs = T) := by show _ = _; rw [← Ho.out hh]; exact Hs1.out
        rw [hh] at Hc
        clear hh
        go_wp2_with fail
        rw [HV.out]
        refine Hc.out.mono ?_
        rintro en w1 ⟨rfl, b1⟩
        have hb1 := HwV.out.trans (b1.mono HwV.out.size)
        have Ho1 := Lib.hid (show OwnR w1 w.heap.size (.slice A l c) rs from own_below Hov.out b1)
        go_wp2
        go_roundw
        case rel => exact ⟨k + 1, b, rs, A, c, l, rfl, rfl, Hl.out, by omega, by go_num, by omega, by omega, HT2.out, Ho1.out, hb1⟩
        case measure => simp [intOf]; omega
      | false =>
        have HT2 : Hid (mkR N (20 - (k + 1)) b (rs ++ [((e : Int), (q : Int))]) = T) := by show _ = _; rw [← Hn2.out hh]; exact Hs1.out
        rw [hh] at Hc
        clear hh
        go_wp2_with fail
        rw [HV.out]
        refine Hc.out.mono ?_
        rintro en w1 ⟨rfl, b1⟩
        have hc0 := (b1.cell (p := ⟨wr.heap.size, 0, none⟩) Hvs.out).trans Hv0.out
        have hc1 := (b1.cell (p := ⟨wr.heap.size, 1, none⟩) Hvs.out).trans Hv1.out
        have hb1 := HwV.out.trans (b1.mono HwV.out.size)
        have Ho1 := Lib.hid (show OwnR w1 w.heap.size (.slice A l c) rs from own_below Hov.out b1)
        have hs1 := hb1.size
        go_wp2_with (at_builtin; refine wp_app_rule _ rfl _ _ rfl w.heap.size _ _ rfl Ho1.out _ _ rfl (by have := Hl.out; omega) hs1 ?_; intro v' w2 hown2 b2; obtain ⟨A2, c2, rfl⟩ := OwnR.shape hown2; have Hown2 := Lib.hid hown2; clear hown2)
        go_roundw
        case rel =>
          have e2 : (rs ++ [((e : Int), (q : Int))]).length = l + 1 := by rw [List.length_append, ← Hl.out]; rfl
          have h := Hown2.out
          rw [e2] at h
          exact ⟨k + 1, b, _, A2, c2, l + 1, rfl, by first | rw [e2] | (rw [← e2]; rfl) | simp [Hl.out], e2.symm, by omega, by go_num, by omega, by omega, HT2.out, h, hb1.trans b2⟩
        case measure => simp [intOf]; omega
    · have HTr : Hid (T = rs) := by
        show _ = _
        rw [← Hmk.out]
        by_cases h : k < 20
        · exact mkR_stop (by have := Hl.out; omega)
        · rw [show 20 - k = 0 by omega]; rfl
      have HD : Hid (D = decide (l = N)) := by show _ = _; rw [← HDD.out, HTr.out, ← Hl.out]; exact decide_eq_decide.2 (by omega)
      by_cases hk20 : k < 20
      · have hln : l = N := by omega
        have HV : Hid (D = true) := by show _ = _; rw [HD.out]; exact decide_eq_true hln
        clear HD HDD
        subst hln
        have hnl : ¬ (l : Int) < (l : Int) := by omega
        have hki : (k : Int) < 20 := by omega
        clear hlt
        go_wp2
        go_ret2
        exact ⟨⟨_, by rw [HV.out]; rfl, by rw [HTr.out]; exact Hown.out⟩, hbel⟩
      · have hke : k = 20 := by omega
        subst hke
        by_cases hln : l = N
        · have HV : Hid (D = true) := by show _ = _; rw [HD.out]; exact decide_eq_true hln
          clear HD HDD
          subst hln
          clear hlt
          go_wp2
          go_ret2
          exact ⟨⟨_, by rw [HV.out]; rfl, by rw [HTr.out]; exact Hown.out⟩, hbel⟩
        · have hb9 : ((l : Int) == (N : Int)) = false := beq_eq_false_iff_ne.2 (by omega)
          have HV : Hid (D = false) := by show _ = _; rw [HD.out]; exact decide_eq_false hln
          clear hlt HD HDD hln
          go_wp2
          go_ret2
          exact ⟨⟨_, by rw [HV.out]; rfl, by rw [HTr.out]; exact Hown.out⟩, hbel⟩
set_option maxRecDepth 100000 in
set_option maxHeartbeats 1600000 in
theorem impl_MakePuzzle_c (w : World) (m n z : Int) :
    Calls Try.prog 54 #[.int .i64 m, .int .i64 n, .int .i64 z] w fun en w' => en = .returned (.tuple #[.agg #[.string (mpS m n z), .int .i64 (mpN m n z)], .bool (mpB m n z)]) ∧ Below w.heap.size w w' := by
  obtain ⟨W, hW⟩ : ∃ W, w.alloc (.cells #[.string ⟨#[]⟩, .int .i64 0] 26) = W := ⟨_, rfl⟩
  have hb0 : W.heap[w.heap.size]? = some (.cells #[.string ⟨#[]⟩, .int .i64 0] 26 (0, 0)) := by rw [← hW]; exact heap_alloc_new _ _
  have b0 : Below w.heap.size w W := by rw [← hW]; exact (Below.refl _ _).alloc (Nat.le_refl _) _
  have zs : w.heap.size < W.heap.size := by rw [← hW]; simp
  have HW := Lib.hid hW
  have B0 := Lib.hid b0
  have HB0 := Lib.hid hb0
  have ZS := Lib.hid zs
  clear hW b0 hb0 zs
  cases h1 : inB m 1 48 with
  | false =>
    have ho : mpB m n z = false := by simp [mpB, mpOk, *]
    rw [mpS_no ho, mpN_no ho, ho]
    have H1 := Lib.hid h1
    clear ho h1
    go_enter Try.func54, Try.ntmps54
    go_wp2_with fail
    rw [HW.out]
    refine (isPatternLength_c _ _).mono ?_
    rw [H1.out]
    rintro e w2 ⟨rfl, rfl⟩
    have hc0 : W.cell? ⟨w.heap.size, 0, none⟩ = some (.string ⟨#[]⟩) := cell_of_row W w.heap.size 0 _ _ _ HB0.out
    have hc1 : W.cell? ⟨w.heap.size, 1, none⟩ = some (.int .i64 0) := cell_of_row W w.heap.size 1 _ _ _ HB0.out
    have hf := fun k => frozen_of_row W w.heap.size k _ _ HB0.out
    go_wp2
    refine bodyPost_ret (v := .tuple #[.agg #[.string ⟨#[]⟩, .int .i64 0], .bool false]) (by rw [results_cell_tmp rfl]; go_simp) rfl ⟨rfl, ?_⟩
    first | exact B0.out | exact (B0.out.setCell (Nat.le_refl _) _).setCell (Nat.le_refl _) _
  | true =>
    cases h2 : inB n 0 3 with
    | false =>
      have ho : mpB m n z = false := by simp [mpB, mpOk, *]
      rw [mpS_no ho, mpN_no ho, ho]
      have H1 := Lib.hid h1
      have H2 := Lib.hid h2
      clear ho h1 h2
      go_enter Try.func54, Try.ntmps54
      go_wp2_with fail
      rw [HW.out]
      refine (isPatternLength_c _ _).mono ?_
      rw [H1.out]
      rintro e w2 ⟨rfl, rfl⟩
      go_wp2_with fail
      refine (isPuzzleCount_c _ _).mono ?_
      rw [H2.out]
      rintro e w2 ⟨rfl, rfl⟩
      have hc0 : W.cell? ⟨w.heap.size, 0, none⟩ = some (.string ⟨#[]⟩) := cell_of_row W w.heap.size 0 _ _ _ HB0.out
      have hc1 : W.cell? ⟨w.heap.size, 1, none⟩ = some (.int .i64 0) := cell_of_row W w.heap.size 1 _ _ _ HB0.out
      have hf := fun k => frozen_of_row W w.heap.size k _ _ HB0.out
      go_wp2
      refine bodyPost_ret (v := .tuple #[.agg #[.string ⟨#[]⟩, .int .i64 0], .bool false]) (by rw [results_cell_tmp rfl]; go_simp) rfl ⟨rfl, ?_⟩
      first | exact B0.out | exact (B0.out.setCell (Nat.le_refl _) _).setCell (Nat.le_refl _) _
    | true =>
      by_cases h3 : z < 0
      · have h3b : inB z 0 9999 = false := inB_false.2 (by omega)
        have ho : mpB m n z = false := by simp [mpB, mpOk, *]
        rw [mpS_no ho, mpN_no ho, ho]
        have H1 := Lib.hid h1
        have H2 := Lib.hid h2
        clear ho h1 h2 h3b
        go_enter Try.func54, Try.ntmps54
        go_wp2_with fail
        rw [HW.out]
        refine (isPatternLength_c _ _).mono ?_
        rw [H1.out]
        rintro e w2 ⟨rfl, rfl⟩
        go_wp2_with fail
        refine (isPuzzleCount_c _ _).mono ?_
        rw [H2.out]
        rintro e w2 ⟨rfl, rfl⟩
        have hc0 : W.cell? ⟨w.heap.size, 0, none⟩ = some (.string ⟨#[]⟩) := cell_of_row W w.heap.size 0 _ _ _ HB0.out
        have hc1 : W.cell? ⟨w.heap.size, 1, none⟩ = some (.int .i64 0) := cell_of_row W w.heap.size 1 _ _ _ HB0.out
        have hf := fun k => frozen_of_row W w.heap.size k _ _ HB0.out
        go_wp2
        refine bodyPost_ret (v := .tuple #[.agg #[.string ⟨#[]⟩, .int .i64 0], .bool false]) (by rw [results_cell_tmp rfl]; go_simp) rfl ⟨rfl, ?_⟩
        first | exact B0.out | exact (B0.out.setCell (Nat.le_refl _) _).setCell (Nat.le_refl _) _
      by_cases h4 : 9999 < z
      · have h3b : inB z 0 9999 = false := inB_false.2 (by omega)
        have ho : mpB m n z = false := by simp [mpB, mpOk, *]
        rw [mpS_no ho, mpN_no ho, ho]
        have H1 := Lib.hid h1
        have H2 := Lib.hid h2
        clear ho h1 h2 h3b
        go_enter Try.func54, Try.ntmps54
        go_wp2_with fail
        rw [HW.out]
        refine (isPatternLength_c _ _).mono ?_
        rw [H1.out]
        rintro e w2 ⟨rfl, rfl⟩
        go_wp2_with fail
        refine (isPuzzleCount_c _ _).mono ?_
        rw [H2.out]
        rintro e w2 ⟨rfl, rfl⟩
        have hc0 : W.cell? ⟨w.heap.size, 0, none⟩ = some (.string ⟨#[]⟩) := cell_of_row W w.heap.size 0 _ _ _ HB0.out
        have hc1 : W.cell? ⟨w.heap.size, 1, none⟩ = some (.int .i64 0) := cell_of_row W w.heap.size 1 _ _ _ HB0.out
        have hf := fun k => frozen_of_row W w.heap.size k _ _ HB0.out
        go_wp2
        refine bodyPost_ret (v := .tuple #[.agg #[.string ⟨#[]⟩, .int .i64 0], .bool false]) (by rw [results_cell_tmp rfl]; go_simp) rfl ⟨rfl, ?_⟩
        first | exact B0.out | exact (B0.out.setCell (Nat.le_refl _) _).setCell (Nat.le_refl _) _
      have h5 : inB z 0 9999 = true := inB_true.2 (by omega)
      obtain ⟨m1, m9⟩ := inB_true.1 h1
      obtain ⟨n1, n9⟩ := inB_true.1 h2
      obtain ⟨N, rfl⟩ := Int.eq_ofNat_of_zero_le n1
      obtain ⟨Z, rfl⟩ := Int.eq_ofNat_of_zero_le (show 0 ≤ z by omega)
      obtain ⟨M, rfl⟩ := Int.eq_ofNat_of_zero_le (show 0 ≤ m by omega)
      have hO : mpOk (M : Int) (N : Int) (Z : Int) = true := by rw [mpOk, h1, h2, h5]; rfl
      have hLd : mpL (N : Int) (Z : Int) = mkR N 20 Z [] := by rw [mpL, Int.toNat_natCast, Int.toNat_natCast]
      have hBd : mpB (M : Int) (N : Int) (Z : Int) = decide (¬ (mkR N 20 Z []).length < N) := by rw [mpB, hO, hLd, Int.toNat_natCast, Bool.true_and]
      have hSd : mpB (M : Int) (N : Int) (Z : Int) = true → mpS (M : Int) (N : Int) (Z : Int) = ptT (mkR N 20 Z []) M := fun h => by
        rw [mpS_yes h, hLd, ptV, ptO, (mk_goodL (Z := Z) (show N ≤ 3 by omega)).1, h1, Int.toNat_natCast]; rfl
      have Hg := Lib.hid (mk_goodL (N := N) (Z := Z) (by omega))
      have Hrs := Lib.hid (fun W => rulesOfSeed_c N Z W (by omega) (by omega))
      have M9 : M ≤ 48 := by omega
      have H1 := Lib.hid h1
      have H2 := Lib.hid h2
      obtain ⟨T, hT⟩ : ∃ T, mkR N 20 Z [] = T := ⟨_, rfl⟩
      rw [hT] at hBd hSd Hg Hrs
      rw [← hBd] at Hrs
      clear hT hBd hLd hO h5 h1 h2
      cases hb : mpB (M : Int) (N : Int) (Z : Int) with
      | false =>
        rw [mpS_no hb, mpN_no hb]
        rw [hb] at Hrs
        clear hb hSd
        go_enter Try.func54, Try.ntmps54
        go_wp2_with fail
        rw [HW.out]
        refine (isPatternLength_c _ _).mono ?_
        rw [H1.out]
        rintro e w2 ⟨rfl, rfl⟩
        go_wp2_with fail
        refine (isPuzzleCount_c _ _).mono ?_
        rw [H2.out]
        rintro e w2 ⟨rfl, rfl⟩
        go_wp2_with fail
        refine (Hrs.out _).mono ?_
        rintro e w3 ⟨⟨v, rfl, o3⟩, b3⟩
        obtain ⟨A, c, rfl⟩ := OwnR.shape o3
        have HB3 := Lib.hid ((b3.block w.heap.size ZS.out).trans HB0.out)
        have B3 := Lib.hid (B0.out.trans (b3.mono B0.out.size))
        have zs3 : w.heap.size < w3.heap.size := Nat.lt_of_lt_of_le ZS.out b3.size
        have hc0 : w3.cell? ⟨w.heap.size, 0, none⟩ = some (.string ⟨#[]⟩) := cell_of_row w3 w.heap.size 0 _ _ _ HB3.out
        have hc1 : w3.cell? ⟨w.heap.size, 1, none⟩ = some (.int .i64 0) := cell_of_row w3 w.heap.size 1 _ _ _ HB3.out
        have hf := fun k => frozen_of_row w3 w.heap.size k _ _ HB3.out
        go_wp2
        refine bodyPost_ret (v := .tuple #[.agg #[.string ⟨#[]⟩, .int .i64 0], .bool false]) (by rw [results_cell_tmp rfl]; go_simp) rfl ⟨rfl, ?_⟩
        first | exact B3.out | exact (B3.out.setCell (Nat.le_refl _) _).setCell (Nat.le_refl _) _
      | true =>
        rw [hSd hb, mpN_yes hb]
        rw [hb] at Hrs
        clear hb hSd
        go_enter Try.func54, Try.ntmps54
        go_wp2_with fail
        rw [HW.out]
        refine (isPatternLength_c _ _).mono ?_
        rw [H1.out]
        rintro e w2 ⟨rfl, rfl⟩
        go_wp2_with fail
        refine (isPuzzleCount_c _ _).mono ?_
        rw [H2.out]
        rintro e w2 ⟨rfl, rfl⟩
        go_wp2_with fail
        refine (Hrs.out _).mono ?_
        rintro e w3 ⟨⟨v, rfl, o3⟩, b3⟩
        obtain ⟨A, c, rfl⟩ := OwnR.shape o3
        have HB3 := Lib.hid ((b3.block w.heap.size ZS.out).trans HB0.out)
        have B3 := Lib.hid (B0.out.trans (b3.mono B0.out.size))
        have zs3 : w.heap.size < w3.heap.size := Nat.lt_of_lt_of_le ZS.out b3.size
        go_wp2_with fail
        refine (signsBehind_c A c T.length T M w3 (Rl_of_own o3 rfl) rfl Hg.out.1 M9).mono ?_
        rintro e w4 ⟨rfl, b4⟩
        have HB4 := (b4.block w.heap.size zs3).trans HB3.out
        have hc0 : w4.cell? ⟨w.heap.size, 0, none⟩ = some (.string ⟨#[]⟩) := cell_of_row w4 w.heap.size 0 _ _ _ HB4
        have hc1 : w4.cell? ⟨w.heap.size, 1, none⟩ = some (.int .i64 0) := cell_of_row w4 w.heap.size 1 _ _ _ HB4
        have hf := fun k => frozen_of_row w4 w.heap.size k _ _ HB4
        have B4 := Lib.hid (B3.out.trans (b4.mono B3.out.size))
        clear HB4 b4 o3 b3
        go_wp2
        refine bodyPost_ret (v := .tuple #[.agg #[.string (ptT T M), .int .i64 (N : Int)], .bool true]) (by rw [results_cell_tmp rfl]; go_simp) rfl ⟨rfl, ?_⟩
        exact (B4.out.setCell (Nat.le_refl _) _).setCell (Nat.le_refl _) _

end Go.Proofs.Ytbgoimhgmgldpaa
