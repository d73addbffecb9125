import Derived.Test.YtoapidcbmlnjcaaI6
import Derived.Laws.ResultCell
namespace Go.Proofs.Ytoapidcbmlnjcaa
open Go.RowKit
set_option linter.unusedVariables false
set_option linter.unusedSimpArgs false

theorem results_cell1 {fn : Func} {p : Tmp} {ty : TypeId} (h : fn.results = #[.cell p ty]) (tmps : Array Value) (P : Program) (w : World) :
    (results fn tmps).run P w = ((asAddr (tmps.getD p undef)).run P w).andThen fun a w₁ => (loadVar ty a).run P w₁ := by
  simp only [results, h]
  simp [Sem.run_bind, Result.andThen]
theorem results_tmp_cell {fn : Func} {p u : Tmp} {ty : TypeId} (h : fn.results = #[.tmp u, .cell p ty]) (tmps : Array Value) (P : Program) (w : World) :
    (results fn tmps).run P w = ((asAddr (tmps.getD p undef)).run P w).andThen fun a w₁ => ((loadVar ty a).run P w₁).andThen fun v w₂ => .ok (.tuple #[tmps.getD u undef, v]) w₂ := by
  simp only [results, h]
  simp [Sem.run_bind, Result.andThen]
theorem results_cell2 {fn : Func} {p u : Tmp} {ty tu : TypeId} (h : fn.results = #[.cell p ty, .cell u tu]) (tmps : Array Value) (P : Program) (w : World) :
    (results fn tmps).run P w = ((asAddr (tmps.getD p undef)).run P w).andThen fun a w₁ => ((loadVar ty a).run P w₁).andThen fun v w₂ => ((asAddr (tmps.getD u undef)).run P w₂).andThen fun b w₃ => ((loadVar tu b).run P w₃).andThen fun y w₄ => .ok (.tuple #[v, y]) w₄ := by
  simp only [results, h]
  simp [Sem.run_bind, Result.andThen]
theorem info_Boo : (Try.prog.info? 4).map (fun i => (i.zero, i.size, i.bytes)) = some (some (.bool false), 1, 1) := by kernel_rfl
set_option maxRecDepth 100000 in
set_option maxHeartbeats 1600000 in
theorem roundOf_c (w : World) (A : Option Addr) (m c : Nat) (rs : List (Int × Int)) (hA : Rl w A rs) (hm : m = rs.length) (hp : perOk rs = true) :
    Calls Try.prog 108 #[.slice A m c, .int .i64 (perF rs)] w fun en w' =>
      (gpO rs = false ∧ en = .panicked empP ∨ gpO rs = true ∧ ∃ vb vl, en = .returned (.agg #[vb, vl]) ∧ BoolsAt w' vb (perF rs).toNat (lfQ rs) ∧ OwnI w' w.heap.size vl (nmC rs true)) ∧ Below w.heap.size w w' := by
  obtain ⟨hg, _, hP1, hP9⟩ := perOk_parts hp
  have Hm := Lib.hid hm
  have Hg := Lib.hid hg
  have Hnl := Lib.hid (gpA_nl hp)
  have HO := Lib.hid (gpO_ok hp)
  obtain ⟨P, hP⟩ := Int.eq_ofNat_of_zero_le (show 0 ≤ perF rs by omega)
  have hPt : (perF rs).toNat = P := by omega
  have HC : Hid (nmC rs true = cyL (fun n => lfQ rs n == true) P) := by show _ = _; rw [nmC, hPt]
  have Hq := Lib.hid (nmQ_true rs)
  rw [hPt] at Hnl ⊢
  rw [hP] at hP1 hP9 ⊢
  have hmk := fun W => mk_full Try.underlying73 info_Boo P (by omega) (by omega) W
  have hml := mk_owns (e := 4) #[.bool false] 1 P (by unfold maxLen; omega) (w.alloc (.cells #[.slice none 0 0, .slice none 0 0] 75))
  clear hm hg hp hP hPt
  go_enter Try.func108, Try.ntmps108
  go_wp2_with fail
  clear hmk
  obtain ⟨w0, hw0⟩ : ∃ w0, (((w.alloc (.cells #[.slice none 0 0, .slice none 0 0] 75)).alloc (.cells (madeCells #[.bool false] P) 4)).alloc (.cells #[.slice (some ⟨w.heap.size + 1, 0, none⟩) P P, .slice none 0 0] 75)) = w0 := ⟨_, rfl⟩
  have b0 : Below w.heap.size w w0 := by rw [← hw0]; exact (((Below.refl _ _).alloc (Nat.le_refl _) _).alloc (by simp) _).alloc (by simp; omega) _
  have hs0 : w0.heap.size = w.heap.size + 3 := by rw [← hw0]; simp
  have hr0 : w0.heap[w.heap.size + 1 + 1]? = some (.cells #[.slice (some ⟨w.heap.size + 1, 0, none⟩) P P, .slice none 0 0] 75 (0, 0)) := by
    have := heap_alloc_new ((w.alloc (.cells #[.slice none 0 0, .slice none 0 0] 75)).alloc (.cells (madeCells #[.bool false] P) 4)) (.cells #[.slice (some ⟨w.heap.size + 1, 0, none⟩) P P, .slice none 0 0] 75)
    rw [World.size_alloc, World.size_alloc, hw0] at this
    exact this
  have hq0 : w0.heap[w.heap.size]? = some (.cells #[.slice none 0 0, .slice none 0 0] 75 (0, 0)) := by
    rw [← hw0, Below.heap_alloc _ _ _ (by simp; omega), Below.heap_alloc _ _ _ (by simp)]
    exact heap_alloc_new w _
  have ho0 : w0.ownsRow (w.heap.size + 1) 4 1 (.slice (some ⟨w.heap.size + 1, 0, none⟩) P P) P (madeCells #[.bool false] (P * 1)).toList := by
    rw [← hw0]
    have h := World.ownsRow.alloc hml (.cells #[.slice (some ⟨w.heap.size + 1, 0, none⟩) P P, .slice none 0 0] 75)
    rw [World.size_alloc, Nat.mul_one] at h
    rw [Nat.mul_one]
    exact h
  rw [hw0]
  have Ho0 := Lib.hid ho0
  have Hr0 := Lib.hid hr0
  have Hq0 := Lib.hid hq0
  clear hml hw0 ho0 hr0 hq0
  obtain ⟨G, hG⟩ : ∃ G, w.heap.size = G := ⟨_, rfl⟩
  rw [hG] at Ho0 Hr0 Hq0 b0 hs0 ⊢
  have HG := Lib.hid hG
  have hwG : w.heap.size ≤ G := by omega
  have hA0 : ∀ W, Below G w W → Rl W A rs := fun W hb => hA.below (by rw [HG.out]; exact hb)
  have HA := Lib.hid hA0
  clear hA hG hA0
  go_loopw [6, 11] (fun _ i wr => ∃ k : Nat, k ≤ P ∧ i = .int .i64 (k : Int) ∧ (∃ xs, wr.ownsRow (G + 1) 4 1 (.slice (some ⟨G + 1, 0, none⟩) P P) P xs ∧ ∀ j, j < k → xs[j]? = some (.bool (lfQ rs j))) ∧ Below G w wr ∧ G + 3 ≤ wr.heap.size ∧
    wr.heap[G + 1 + 1]? = some (.cells #[.slice (some ⟨G + 1, 0, none⟩) P P, .slice none 0 0] 75 (0, 0)) ∧ wr.heap[G]? = some (.cells #[.slice none 0 0, .slice none 0 0] 75 (0, 0))) (fun _ i _ => P - (intOf i).toNat)
  case atStart => exact ⟨0, Nat.zero_le _, rfl, ⟨_, Ho0.out, by omega⟩, b0, by omega, Hr0.out, Hq0.out⟩
  case round =>
    obtain ⟨k, hk, rfl, ⟨xs, hown, hxs⟩, hbel, hsz, hr, hq⟩ := hrel
    have Hxs := Lib.hid hxs
    have Hown := Lib.hid hown
    have Hr := Lib.hid hr
    have Hq2 := Lib.hid hq
    have Hbel := Lib.hid hbel
    clear hxs hown hr hq hbel
    by_cases hlt : k < P
    · have hki : (k : Int) < (P : Int) := by omega
      have hcr : wr.cell? ⟨G + 1 + 1, 0, none⟩ = some (.slice (some ⟨G + 1, 0, none⟩) P P) := cell_of_row _ _ 0 _ _ _ Hr.out
      have hfun := fun W (hb : Below wr.heap.size wr W) => isLeft_c A c m rs (k : Int) W (HA.out W (Hbel.out.trans (hb.mono (by omega)))) Hm.out Hg.out (by omega) (by omega)
      have HF := Lib.hid hfun
      have hdrew : Below wr.heap.size wr wr.drew := (Below.refl wr.heap.size wr).drew
      obtain ⟨q, hqe⟩ : ∃ q, leftF rs (k : Int) = q := ⟨_, rfl⟩
      rw [hqe] at HF
      have Hqe := Lib.hid hqe
      obtain ⟨x0, hx0, hf0⟩ := own_get Hown.out k (by omega)
      clear hfun hqe
      go_wp2_with fail
      go_region_law (first | (go_simp; go_at_call 124; (refine (HF.out _ hdrew).mono ?_; rintro e w5 ⟨rfl, b5⟩; have hcr5 := (b5.cell (p := ⟨G + 1 + 1, 0, none⟩) (by show G + 1 + 1 < wr.heap.size; omega)).trans hcr; have hx5 := (b5.cell (p := ⟨G + 1, k, none⟩) (by show G + 1 < wr.heap.size; omega)).trans hx0; have hf5 := (b5.frozen (p := ⟨G + 1, k, none⟩) (by show G + 1 < wr.heap.size; omega)).trans hf0)) | fail)
      all_goals (
        go_wp2
        go_roundw
        case rel =>
          have b5' : Below wr.heap.size wr w5 := (Below.refl wr.heap.size wr).drew.trans b5
          have h1 := own_below Hown.out b5'
          have h2 := (h1.stored k (.bool q)).1
          have hs5 := b5'.size
          have hn1 : G + 1 ≠ G + 1 + 1 := by omega
          have hn2 : G + 1 ≠ G := by omega
          refine ⟨k + 1, by omega, by go_num, ⟨_, h2, fun j hj => ?_⟩, ((Hbel.out.trans (b5'.mono (by omega))).setCell (by show G ≤ G + 1; omega) _), by simp; omega, ?_, ?_⟩
          · have hxl : xs.length = P * 1 := Hown.out.1
            rcases Nat.lt_succ_iff_lt_or_eq.1 hj with h | h
            · rw [List.getElem?_set_ne (by omega)]
              exact Hxs.out j h
            · subst h
              rw [List.getElem?_set_self (by omega), lfQ, Hqe.out]
          · exact (heap_setCell_other w5 ⟨G + 1, k, none⟩ (G + 1 + 1) _ (fun h => hn1 h.symm)).trans ((b5'.block (G + 1 + 1) (by omega)).trans Hr.out)
          · exact (heap_setCell_other w5 ⟨G + 1, k, none⟩ G _ (fun h => hn2 h.symm)).trans ((b5'.block G (by omega)).trans Hq2.out)
        case measure => simp [intOf]; omega)
    · have hkP : k = P := by omega
      subst hkP
      have hki : (k : Int) ≤ (k : Int) := Int.le_refl _
      have hcr0 : wr.cell? ⟨G + 1 + 1, 0, none⟩ = some (.slice (some ⟨G + 1, 0, none⟩) k k) := cell_of_row _ _ 0 _ _ _ Hr.out
      have hcr1 : wr.cell? ⟨G + 1 + 1, 1, none⟩ = some (.slice none 0 0) := cell_of_row _ _ 1 _ _ _ Hr.out
      have hB : BoolsAt wr (.slice (some ⟨G + 1, 0, none⟩) k k) k (lfQ rs) := ⟨G + 1, k, rfl, by omega, fun j hj => (World.ownsRow.cellAt Hown.out j (by omega)).trans (Hxs.out j hj)⟩
      have HB := Lib.hid hB
      clear hB
      cases ho : gpO rs with
      | false =>
        have hz : (nlF (fun n => lfQ rs n == true) k).length = 0 := by
          have h := HO.out
          rw [ho] at h
          have h2 := decide_eq_false_iff_not.1 h.symm
          rw [Hq.out, ← Hnl.out]; omega
        have HN := Lib.hid (numbersThat_no wr (.slice (some ⟨G + 1, 0, none⟩) k k) none 0 0 k (lfQ rs) (by omega) (by omega) HB.out true hz)
        have Ho := Lib.hid ho
        clear ho hz
        go_wp2_with fail
        refine HN.out.mono ?_
        rintro e w6 ⟨rfl, b6⟩
        try go_wp2
        refine ⟨rfl, .inl ⟨Ho.out, rfl⟩, ?_⟩
        have := Hbel.out.trans (b6.mono (by omega))
        rw [HG.out]; exact this
      | true =>
        have hz : 0 < (nlF (fun n => lfQ rs n == true) k).length := by
          have h := HO.out
          rw [ho] at h
          have h2 := of_decide_eq_true h.symm
          rw [Hq.out, ← Hnl.out]; omega
        have HN := Lib.hid (numbersThat_yes wr (.slice (some ⟨G + 1, 0, none⟩) k k) none 0 0 k (lfQ rs) (by omega) (by omega) HB.out true hz)
        have Ho := Lib.hid ho
        clear ho hz
        go_wp2_with fail
        refine HN.out.mono ?_
        rintro e w6 ⟨⟨v6, rfl, o6⟩, b6⟩
        have hs6 := b6.size
        have hR6 := (b6.block (G + 1 + 1) (by omega)).trans Hr.out
        have hQ6 := (b6.block G (by omega)).trans Hq2.out
        have HB6 := Lib.hid (HB.out.below b6)
        obtain ⟨A6, c6, rfl, _⟩ := own_row o6
        obtain ⟨N6, hN6⟩ : ∃ N, (cyL (fun n => lfQ rs n == true) k).length = N := ⟨_, rfl⟩
        have O6 := Lib.hid o6
        rw [hN6] at O6 ⊢
        clear o6 hN6
        have d1 : w6.cell? ⟨G + 1 + 1, 1, none⟩ = some (.slice none 0 0) := cell_of_row _ _ 1 _ _ _ hR6
        have d0 : w6.cell? ⟨G + 1 + 1, 0, none⟩ = some (.slice (some ⟨G + 1, 0, none⟩) k k) := cell_of_row _ _ 0 _ _ _ hR6
        have f1 : w6.frozen? ⟨G + 1 + 1, 1, none⟩ = false := frozen_of_row _ _ _ _ _ hR6
        have e0 : w6.cell? ⟨G, 0, none⟩ = some (.slice none 0 0) := cell_of_row _ _ 0 _ _ _ hQ6
        have e1 : w6.cell? ⟨G, 1, none⟩ = some (.slice none 0 0) := cell_of_row _ _ 1 _ _ _ hQ6
        have g0 : w6.frozen? ⟨G, 0, none⟩ = false := frozen_of_row _ _ _ _ _ hQ6
        have g1 : w6.frozen? ⟨G, 1, none⟩ = false := frozen_of_row _ _ _ _ _ hQ6
        clear hR6 hQ6
        go_wp2
        refine bodyPost_ret (v := .agg #[.slice (some ⟨G + 1, 0, none⟩) k k, .slice A6 N6 c6]) (by rw [results_cell1 rfl]; go_simp) rfl ?_
        have hbT : Below G w w6 := Hbel.out.trans (b6.mono (by omega))
        refine ⟨.inr ⟨Ho.out, _, _, rfl, ?_, ?_⟩, ?_⟩
        · obtain ⟨gg, cc, e9, hgg, hcc⟩ := HB6.out
          cases e9
          refine ⟨G + 1, k, rfl, by simp; omega, fun j hj => ?_⟩
          rw [World.cell?_setCell_other _ _ _ _ (by simp), World.cell?_setCell_other _ _ _ _ (by simp), World.cell?_setCell_other _ _ _ _ (by simp)]
          exact hcc j hj
        · rw [HC.out, HG.out]
          exact OwnI.mono (ownsRow_setCell_below (ownsRow_setCell_below (ownsRow_setCell_below O6.out (a := ⟨G + 1 + 1, 1, none⟩) (by show G + 1 + 1 < wr.heap.size; omega) _) (a := ⟨G, 0, none⟩) (by show G < wr.heap.size; omega) _) (a := ⟨G, 1, none⟩) (by show G < wr.heap.size; omega) _) (by omega)
        · rw [HG.out]
          exact ((hbT.setCell (p := ⟨G + 1 + 1, 1, none⟩) (by show G ≤ G + 1 + 1; omega) _).setCell (p := ⟨G, 0, none⟩) (Nat.le_refl _) _).setCell (p := ⟨G, 1, none⟩) (Nat.le_refl _) _

end Go.Proofs.Ytoapidcbmlnjcaa
