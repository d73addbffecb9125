import Derived.Test.YtkpililllihgcabZB
import Derived.Deep.LoopGhost
namespace Go.Proofs.Ytkpililllihgcab
open Go.RowKit
set_option linter.unusedVariables false
set_option linter.unusedSimpArgs false

theorem tsL_flat (n k : Nat) : (tsL n k).flatten.length = 2 * (tsL n k).length := flat2_len (tsL_two n k)
theorem own_cap {w : World} {B n c : Nat} {A : Option Addr} {xs : List Int} (h : OwnI w B (.slice A n c) xs) : n ≤ c ∧ c ≤ 9223372036854775807 := by
  rcases h.2 with ⟨e, h0⟩ | ⟨g, cap, cur, e, hB, hg, hle, hm, hcs, ht⟩
  · simp only [Value.slice.injEq] at e
    omega
  · simp only [Value.slice.injEq] at e
    unfold maxLen at hm
    omega
theorem two_cells {w : World} {p : Nat} {x y u v : Value} (h0 : w.cell? ⟨p, 0, none⟩ = some x) (h1 : w.cell? ⟨p, 1, none⟩ = some y) :
    ((w.setCell ⟨p, 0, none⟩ u).setCell ⟨p, 1, none⟩ v).cell? ⟨p, 0, none⟩ = some u ∧ ((w.setCell ⟨p, 0, none⟩ u).setCell ⟨p, 1, none⟩ v).cell? ⟨p, 1, none⟩ = some v ∧ p < ((w.setCell ⟨p, 0, none⟩ u).setCell ⟨p, 1, none⟩ v).heap.size := by
  have e1 : (⟨p, 1, none⟩ : Addr) ≠ ⟨p, 0, none⟩ := fun h => by injection h with _ h; omega
  have e2 : (⟨p, 0, none⟩ : Addr) ≠ ⟨p, 1, none⟩ := fun h => by injection h with _ h; omega
  have a : ((w.setCell ⟨p, 0, none⟩ u).setCell ⟨p, 1, none⟩ v).cell? ⟨p, 0, none⟩ = some u := by
    rw [World.cell?_setCell_other _ _ _ _ e1]
    exact World.cell?_setCell_same _ _ _ h0
  refine ⟨a, ?_, World.block_lt_of_cell? _ _ a⟩
  refine World.cell?_setCell_same (u := y) _ _ _ ?_
  rw [World.cell?_setCell_other _ _ _ _ e2]
  exact h1
set_option maxRecDepth 100000 in
set_option maxHeartbeats 1600000 in
theorem twoSquares_c (w : World) (N : Nat) (h1 : 1 ≤ N) (h9 : N ≤ 200000) :
    Calls Try.prog 56 #[.int .i64 (N : Int)] w fun en w' => (∃ v, en = .returned v ∧ FlatLL w' w.heap.size v (tsL N (rtF (N / 2) + 1))) ∧ Below w.heap.size w w' := by
  have hrt := sq_lt_of (d := rtF (N / 2)) (n := N / 2) (b := 317) (rtF_parts (N / 2)).1 (by omega)
  have Hstep := Lib.hid (fun k x hk h => fsO_step h9 (449 - k) k x (by omega) h)
  have Hend := Lib.hid (fun k (hk : k ≤ 449) h m => fsO_end h9 (449 - k) k (by omega) h m)
  have Hmore := Lib.hid (fun k => rtF_more (n := N / 2) (k := k))
  have Hlen := Lib.hid (fun k => tsL_len N k)
  have Hfl := Lib.hid (fun k => tsL_flat N k)
  obtain ⟨T, hT⟩ : ∃ T, rtF (N / 2) = T := ⟨_, rfl⟩
  rw [hT] at hrt Hend Hmore ⊢
  clear hT
  have Hfirst := Lib.hid (fun W => firstSum_c W N 0 h9 (by omega))
  go_enter Try.func56, Try.ntmps56
  go_wp2_with fail
  refine (Hfirst.out _).mono ?_
  rintro e w1 ⟨rfl, b1⟩
  clear Hfirst
  go_wp2
  go_loopg [3, 4] (T + 2) (fun kx vv bx wr => ∃ (A : Option Addr) (m c k p : Nat), vv = .slice A m c ∧ k ≤ T + 1 ∧ T + 2 - k ≤ kx ∧ bx = .pointer (some ⟨p, 0, none⟩) ∧ p < wr.heap.size ∧ OwnI wr w.heap.size (.slice A m c) (tsL N k).flatten ∧ (∀ q, (Value.slice A m c).ownBlock = some q → q ≠ p) ∧
      wr.cell? ⟨p, 0, none⟩ = some (.int .i64 ((fsP (fsO N (500 - k) k)).1 : Int)) ∧ wr.cell? ⟨p, 1, none⟩ = some (.int .i64 ((fsP (fsO N (500 - k) k)).2 : Int)) ∧ Below w.heap.size w wr)
  case atStart => exact ⟨none, 0, 0, 0, w1.heap.size, rfl, Nat.zero_le _, by omega, rfl, by simp, OwnI.nil _ _, fun q h => by simp [Value.ownBlock] at h, by simp, by simp, b1.alloc b1.size _⟩
  case round =>
    obtain ⟨A, m, c, k, p, rfl, hk, hkx, rfl, hp, hown, hne, hc0, hc1, hbel⟩ := hrel
    have hs := hbel.size
    have Hown := Lib.hid hown
    have Hne := Lib.hid hne
    clear hown hne
    have Hl := Lib.hid (show (tsL N k).flatten.length ≤ 1000 by have := Hlen.out k; have := Hfl.out k; omega)
    cases ho : fsO N (500 - k) k with
    | none =>
      rw [ho] at hc0 hc1
      have he := Hend.out k (by omega) ho (T + 1) hk (Nat.le_refl _)
      have hc0' : wr.cell? ⟨p, 0, none⟩ = some (.int .i64 0) := hc0
      have hc1' : wr.cell? ⟨p, 1, none⟩ = some (.int .i64 0) := hc1
      clear ho hc0 hc1
      have Hf2 := Lib.hid (Hfl.out k)
      have H2 := Lib.hid (tsL_two N k)
      have hm : m = (tsL N k).flatten.length := by
        rcases Hown.out.2 with ⟨e, h0⟩ | ⟨g, cap, cur, e, _⟩
        · simp only [Value.slice.injEq] at e; omega
        · simp only [Value.slice.injEq] at e; exact e.2.1
      have hK9 := Hlen.out k
      obtain ⟨L, hL⟩ : ∃ L, tsL N k = L := ⟨_, rfl⟩
      rw [hL] at Hown Hf2 H2 hm hK9 he
      have HE := Lib.hid he
      have hm2 : m = 2 * L.length := by rw [hm, Hf2.out]
      have hcap := own_cap Hown.out
      have Hm2 := Lib.hid hm2
      clear hL hm Hl he hm2
      go_wp2
      go_loopw [5, 6] (fun lv i w2 => ∃ (A2 : Option Addr) (j c2 : Nat) (vs : List Value), lv = .slice A2 j c2 ∧ j ≤ L.length ∧ i = .int .i64 (2 * (j : Int)) ∧ w2.ownsRow w.heap.size 40 1 (.slice A2 j c2) j vs ∧
          (∀ i, i < j → ∃ g, (Value.slice A m c).ownBlock = some g ∧ vs[i]? = some (.slice (some ⟨g, 2 * i, none⟩) 2 2)) ∧ OwnI w2 w.heap.size (.slice A m c) L.flatten ∧ Below w.heap.size w w2) (fun _ i _ => 2 * L.length - (intOf i).toNat)
      case atStart => exact ⟨none, 0, 0, [], rfl, Nat.zero_le _, rfl, World.ownsRow_nil _ _ _ _, fun i h => by omega, Hown.out, hbel⟩
      case round =>
        obtain ⟨A2, j, c2, vs, rfl, hj, rfl, hout, hvs, hV, hbel2⟩ := hrel
        have hs2 := hbel2.size
        have Hout := Lib.hid hout
        have Hvs := Lib.hid hvs
        have HV := Lib.hid hV
        clear hout hvs hV
        by_cases hlt : j < L.length
        · obtain ⟨g, rfl, hg1, hg2⟩ := own_form (by have h := HV.out; rw [OwnI, Hf2.out, ← Hm2.out] at h; exact h) (by have := Hm2.out; omega)
          have hlm : 2 * (j : Int) < (m : Int) := by have := Hm2.out; omega
          have hjc : 2 * (j : Int) + 2 ≤ (c : Int) := by have := Hm2.out; omega
          have hjt : (2 * (j : Int)).toNat = 2 * j := by omega
          have hjt2 : (2 * (j : Int) + 2).toNat = 2 * j + 2 := by omega
          go_wp2_with (at_builtin; refine wp_app_flat _ (some ⟨g, 2 * j, none⟩) 2 2 rfl _ _ rfl w.heap.size _ j vs Hout.out rfl _ _ HV.out rfl (by omega) hs2 ?_; intro v' w6 hown6 hV6 b6)
          go_roundw
          case rel =>
            obtain ⟨A6, c6, rfl⟩ := own_shape hown6
            refine ⟨A6, j + 1, c6, _, rfl, by omega, by go_num, hown6, fun i hi => ?_, hV6, hbel2.trans b6⟩
            have hlv : vs.length = j * 1 := Hout.out.1
            rcases Nat.lt_succ_iff_lt_or_eq.1 hi with h | h
            · obtain ⟨g', e1, e2⟩ := Hvs.out i h
              exact ⟨g', e1, by rw [List.getElem?_append_left (by omega)]; exact e2⟩
            · subst h
              refine ⟨g, rfl, ?_⟩
              rw [List.getElem?_append_right (by omega), show i - vs.length = 0 by omega]
              rfl
          case measure => simp [intOf]; have := Hm2.out; omega
        · have hlm : (m : Int) ≤ 2 * (j : Int) := by have := Hm2.out; omega
          have Hj := Lib.hid (show j = L.length by omega)
          go_wp2
          go_ret
          rw [HE.out]
          exact ⟨⟨_, rfl, H2.out, vs, _, by rw [← Hj.out]; exact Hout.out, HV.out, by rw [← Hj.out]; exact Hvs.out⟩, hbel2⟩
    | some x =>
      obtain ⟨a, b⟩ := x
      obtain ⟨e1, e2⟩ := fsP_some h1 ho
      obtain ⟨s1, s2, s3, s4⟩ := Hstep.out k (a, b) (by omega) ho
      dsimp only at s1 s2 s3 s4 e2
      rw [e1] at hc0 hc1
      have ha := sq_lt_of (d := a) (n := N / 2) (b := 317) (by omega) (by omega)
      have hb := rtF_lt (n := N - a * a) (by omega)
      rw [← s3] at hb
      have haT : a ≤ T := by
        rcases Nat.eq_zero_or_pos a with e | e
        · omega
        · have := Hmore.out (a - 1) (by rw [show a - 1 + 1 = a by omega]; omega)
          omega
      have S4 := Lib.hid (show (tsL N (a + 1)).flatten = (tsL N k).flatten ++ [(a : Int), (b : Int)] by rw [s4, flatten_snoc2])
      have Hc := fun W => firstSum_c W N (a + 1) h9 (by omega)
      rw [show ((a + 1 : Nat) : Int) = (a : Int) + 1 by omega] at Hc
      obtain ⟨P, hP⟩ : ∃ P, fsP (fsO N (500 - (a + 1)) (a + 1)) = P := ⟨_, rfl⟩
      rw [hP] at Hc
      have HP := Lib.hid hP
      have HC := Lib.hid Hc
      obtain ⟨P0, P1⟩ := P
      have heq := fun W => eq_sum a b W e2
      have hc0' : wr.cell? ⟨p, 0, none⟩ = some (.int .i64 (a : Int)) := hc0
      have hc1' : wr.cell? ⟨p, 1, none⟩ = some (.int .i64 (b : Int)) := hc1
      have hpn : some p ≠ (Value.slice A m c).ownBlock := fun e => Hne.out p e.symm rfl
      clear e1 s2 s3 s4 e2 ho Hc hP hc0 hc1
      go_wp2_with (at_builtin; refine wp_app_int2 _ rfl _ _ rfl w.heap.size _ _ Hown.out rfl _ _ rfl (by have := Hl.out; omega) hs ?_; intro v' w6 hown6 g6; have hd0 := g6.cell (a := ⟨p, 0, none⟩) hc0' hpn; have hd1 := g6.cell (a := ⟨p, 1, none⟩) hc1' hpn)
      refine (HC.out _).mono ?_
      rintro e w7 ⟨rfl, b7⟩
      have hs6 := Nat.le_trans hs g6.size
      have hsz7 : w6.heap.size < (w6.alloc (.cells #[.int .i64 (a : Int), .int .i64 (b : Int)] 55)).heap.size := by simp
      have bb : Below w6.heap.size w6 w7 := ((Below.refl _ _).alloc (Nat.le_refl _) _).trans (b7.mono (Nat.le_of_lt hsz7))
      have hz : w7.heap[w6.heap.size]? = some (.cells #[.int .i64 (a : Int), .int .i64 (b : Int)] 55 (0, 0)) := (b7.block _ hsz7).trans (heap_alloc_new w6 _)
      have hq0 : w7.cell? ⟨w6.heap.size, 0, none⟩ = some (.int .i64 (a : Int)) := cell_of_row w7 w6.heap.size 0 _ _ _ hz
      have hq1 : w7.cell? ⟨w6.heap.size, 1, none⟩ = some (.int .i64 (b : Int)) := cell_of_row w7 w6.heap.size 1 _ _ _ hz
      have hqf := fun k => frozen_of_row w7 w6.heap.size k _ _ hz
      have Hq0 := Lib.hid hq0
      have Hq1 := Lib.hid hq1
      have b6 : Below w.heap.size wr w6 := below_of_grown g6 hs fun q hq => (World.ownsRow.lt Hown.out q hq).1
      obtain ⟨A6, m6, c6, rfl⟩ : ∃ A6 m6 c6, v' = .slice A6 m6 c6 := by obtain ⟨A, c, e⟩ := hown6.shape; exact ⟨A, _, c, e⟩
      have Hown6 := Lib.hid hown6
      clear hown6 hz hd0 hd1
      go_wp2
      go_roundg (T + 2 - (a + 1))
      case measure => omega
      case rel =>
        have bf : Below w6.heap.size w6 ((w7.setCell ⟨w6.heap.size, 0, none⟩ (.int .i64 (P0 : Int))).setCell ⟨w6.heap.size, 1, none⟩ (.int .i64 (P1 : Int))) := (bb.setCell (Nat.le_refl _) _).setCell (Nat.le_refl _) _
        refine ⟨A6, _, c6, a + 1, w6.heap.size, rfl, by omega, Nat.le_refl _, rfl, ?_, by rw [S4.out]; exact Hown6.out.below bf, fun q hq => Nat.ne_of_lt (World.ownsRow.lt Hown6.out q hq).2, ?_, ?_, (hbel.trans b6).trans (bf.mono hs6)⟩
        · exact (two_cells Hq0.out Hq1.out).2.2
        · rw [HP.out]
          exact (two_cells Hq0.out Hq1.out).1
        · rw [HP.out]
          exact (two_cells Hq0.out Hq1.out).2.1

end Go.Proofs.Ytkpililllihgcab
