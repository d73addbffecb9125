import Derived.Test.YtjoklbkbggdlgaaO2
import Derived.Test.YtjoklbkbggdlgaaM1
import Derived.Test.YtjoklbkbggdlgaaP7
import Derived.Test.YtjoklbkbggdlgaaB3
namespace Go.Proofs.Ytjoklbkbggdlgaa
open Go.RowKit
set_option maxRecDepth 100000
set_option linter.unusedVariables false
set_option linter.unusedSimpArgs false

theorem grown_stepK {w0 w w' : World} {row : Option Nat} {B : Nat} (h : w0.grownBy w row) (hb : Below B w w') (hB : w0.heap.size ≤ B) : w0.grownBy w' row :=
  ⟨hb.os.trans h.os, hb.tape.trans h.tape, hb.output.trans h.output, Nat.le_trans h.size hb.size, fun i hi hn => (hb.block i (by omega)).trans (h.block i hi hn)⟩
theorem Cur.stepK {w w' : World} {bp n c k B : Nat} {A : Option Addr} (h : Cur w bp A n c k) (hb : Below B w w') (hB : bp < B) : Cur w' bp A n c k := by
  obtain ⟨s, h1, h2⟩ := h
  exact ⟨s, by rw [hb.block bp hB]; exact h1, h2.below (hb.mono (Nat.le_of_lt hB))⟩
theorem OwnR.grownK {w w' : World} {B g : Nat} {v : Value} {rs : List (Int × Int)} (h : OwnR w B v rs) (hg : w.grownBy w' (some g)) (hB : g < B) : OwnR w' B v rs :=
  World.ownsRow.kept h hg (.inr fun e => by have := (World.ownsRow.lt h g e).1; omega)
theorem OwnI.grownK {w w' : World} {B g : Nat} {v : Value} {xs : List Int} (h : OwnI w B v xs) (hg : w.grownBy w' (some g)) (hB : g < B) : OwnI w' B v xs :=
  World.ownsRow.kept h hg (.inr fun e => by have := (World.ownsRow.lt h g e).1; omega)
def slK : Value → Nat
  | .slice _ m _ => m
  | _ => 0
theorem good_moreK {bs : List (Int × Int)} {p x : Int} (h : goodL bs = true) (hl : bs.length ≤ 11) (hp : 2 ≤ p ∧ p ≤ 60) (hx : 0 ≤ x ∧ x < p) : goodL (bs ++ [(p, x)]) = true := by
  refine goodL_true (by rw [List.length_append, List.length_singleton]; omega) fun k hk => ?_
  rw [List.length_append, List.length_singleton] at hk
  by_cases hkl : k < bs.length
  · have h2 : okAt bs k = true := by
      simp only [goodL, Bool.and_eq_true, decide_eq_true_eq] at h
      exact h.2 k hkl
    rw [okAt] at h2 ⊢
    rwa [show evL (bs ++ [(p, x)]) k = evL bs k by simp [evL, List.getElem?_append, hkl], show reL (bs ++ [(p, x)]) k = reL bs k by simp [reL, List.getElem?_append, hkl]]
  · have e : k = bs.length := by omega
    subst e
    rw [okAt, show evL (bs ++ [(p, x)]) bs.length = p by simp [evL], show reL (bs ++ [(p, x)]) bs.length = x by simp [reL], okR_true]
    omega
theorem results_cell1K {fn : Func} {p : Tmp} {ty : TypeId} (h : fn.results = #[.cell p ty]) (tmps : Array Value) (P : Program) (w : World) :
    (results fn tmps).run P w = ((asAddr (tmps.getD p undef)).run P w).andThen fun a w₁ => (loadVar ty a).run P w₁ := by
  simp only [results, h]
  simp [Sem.run_bind, Result.andThen]
theorem own_litI (w : World) (n : Nat) (xs : List Int) (arr : Array Value) (ha : arr = (xs.map (Value.int .i64)).toArray) (hn : n = xs.length) (h9 : n ≤ 1000) : OwnI (w.alloc (.cells arr 3)) w.heap.size (.slice (some ⟨w.heap.size, 0, none⟩) n n) xs := by
  subst ha hn
  have h := World.ownsRow_lit w (base := w.heap.size) (e := 3) (size := 1) (xs.map (Value.int .i64)).toArray xs.length (Nat.le_refl _) (by unfold maxLen; omega) (by simp)
  have h2 : (w.alloc (.cells (xs.map (Value.int .i64)).toArray 3)).ownsRow w.heap.size 3 1 (.slice (some ⟨w.heap.size, 0, none⟩) xs.length xs.length) xs.length (xs.map (Value.int .i64)) := by simpa using h
  exact h2
theorem own_litR (w : World) (n : Nat) (rs : List (Int × Int)) (arr : Array Value) (ha : arr = (cellsR rs).toArray) (hn : n = rs.length) (h9 : n ≤ 1000) : OwnR (w.alloc (.cells arr 39)) w.heap.size (.slice (some ⟨w.heap.size, 0, none⟩) n n) rs := by
  subst ha hn
  have hl : (cellsR rs).length = rs.length * 2 := by
    clear h9
    induction rs with
    | nil => rfl
    | cons r t ih => simp only [cellsR, List.flatMap_cons, List.length_append, List.length_cons, List.length_nil] at ih ⊢; omega
  have h := World.ownsRow_lit w (base := w.heap.size) (e := 39) (size := 2) (cellsR rs).toArray rs.length (Nat.le_refl _) (by unfold maxLen; omega) (by simp [hl])
  have h2 : (w.alloc (.cells (cellsR rs).toArray 39)).ownsRow w.heap.size 39 2 (.slice (some ⟨w.heap.size, 0, none⟩) rs.length rs.length) rs.length (cellsR rs) := by simpa using h
  exact h2
set_option maxHeartbeats 1000000 in
theorem rule_c (w : World) (bp : Nat) (A : Option Addr) (n c k : Nat) (h : Cur w bp A n c k) (hn : n ≤ 4294967296) (hk : k ≤ 4294967200) :
    Calls Try.prog 64 #[.pointer (some ⟨bp, 0, none⟩)] w fun en w' => (∃ e r : Nat, en = .returned (.agg #[.int .i64 (e : Int), .int .i64 (r : Int)]) ∧ 2 ≤ e ∧ e ≤ 15 ∧ r < e) ∧ (∃ k', k' ≤ k + 4 ∧ Cur w' bp A n c k') ∧ w.grownBy w' (some bp) := by
  have HC := Lib.hid h
  have hlt := h.lt
  clear h
  go_enter Try.func64, Try.ntmps64
  go_wp2_with fail
  refine (among_c _ bp A n c k (w.heap.size + 1) 11 _ [2, 3, 4, 5, 6, 7, 8, 9, 10, 12, 15] ((HC.out.alloc _).alloc _) (Il_new _ _ _ _ _ (by simp) rfl) (by omega) hn (by omega) rfl (by omega) (by omega)).mono ?_
  rintro e w1 ⟨⟨v, rfl, hv⟩, ⟨k1, hk1, hc1⟩, g1⟩
  have HC1 := Lib.hid hc1
  have hv2 : 2 ≤ v ∧ v ≤ 15 := by simp at hv; omega
  obtain ⟨E, rfl⟩ := Int.eq_ofNat_of_zero_le (show 0 ≤ v by omega)
  clear hc1 hv
  go_wp2_with fail
  refine (pick_c _ bp A n c k1 E HC1.out hn (by omega) (by omega) (by omega)).mono ?_
  rintro e w2 ⟨⟨x, rfl, hx⟩, ⟨k2, hk2, hc2⟩, g2⟩
  have HC2 := Lib.hid hc2
  clear hc2
  have G := grown_trans (World.grownBy_alloc w (.cells #[.int .i64 0, .int .i64 0] 39) (some bp)) (grown_trans (World.grownBy_alloc _ _ (some bp)) (grown_trans g1 g2))
  have hT2 : w2.heap[w.heap.size]? = some (.cells #[.int .i64 0, .int .i64 0] 39 (0, 0)) := by
    have ga := grown_trans g1 g2
    have a1 := ga.block w.heap.size (by simp; omega) (by simp; omega)
    rw [a1]
    exact (Below.heap_alloc _ _ w.heap.size (by simp)).trans (heap_new w _)
  have ta2 : w2.cell? ⟨w.heap.size, 0, none⟩ = some (.int .i64 0) := cell_of_row _ _ 0 _ _ _ hT2
  have tb2 : w2.cell? ⟨w.heap.size, 1, none⟩ = some (.int .i64 0) := cell_of_row _ _ 1 _ _ _ hT2
  have tf2 : w2.frozen? ⟨w.heap.size, 0, none⟩ = false := frozen_of_row _ _ _ _ _ hT2
  have tg2 : w2.frozen? ⟨w.heap.size, 1, none⟩ = false := frozen_of_row _ _ _ _ _ hT2
  have HS : Hid (∀ u1 u2 : Value, Below w.heap.size w2 ((w2.setCell ⟨w.heap.size, 0, none⟩ u1).setCell ⟨w.heap.size, 1, none⟩ u2)) := Lib.hid fun u1 u2 => ((Below.refl w.heap.size w2).setCell (p := ⟨w.heap.size, 0, none⟩) (Nat.le_refl _) u1).setCell (p := ⟨w.heap.size, 1, none⟩) (Nat.le_refl _) u2
  have HG := Lib.hid G
  clear hT2 g1 g2 G
  go_wp2
  refine bodyPost_ret (v := .agg #[.int .i64 (E : Int), .int .i64 (x : Int)]) (by rw [results_cell1K rfl]; go_simp) rfl ⟨⟨E, x, rfl, by omega, by omega, hx⟩, ⟨k2, by omega, HC2.out.stepK (HS.out _ _) hlt⟩, grown_stepK HG.out (HS.out _ _) (Nat.le_refl _)⟩
set_option maxHeartbeats 2000000 in
theorem sureRules_c (w : World) (bp : Nat) (A : Option Addr) (n c k : Nat) (h : Cur w bp A n c k) (hn : n ≤ 4294967296) (hk : k ≤ 4294967100) :
    Calls Try.prog 77 #[.pointer (some ⟨bp, 0, none⟩), .int .i64 5] w fun en w' => (∃ v rs, en = .returned v ∧ OwnR w' w.heap.size v rs ∧ rs.length ≤ 5) ∧ (∃ k', k' ≤ k + 40 ∧ Cur w' bp A n c k') ∧ w.grownBy w' (some bp) := by
  have HC := Lib.hid h
  have hlt := h.lt
  clear h
  go_enter Try.func77, Try.ntmps77
  go_wp2_with fail
  refine (pick_c _ bp A n c k 6 HC.out hn (by omega) (by omega) (by omega)).mono ?_
  rintro e w2 ⟨⟨j0, rfl, hj0⟩, ⟨k2, hk2, hc2⟩, g2⟩
  have HC2 := Lib.hid hc2
  clear hc2
  go_wp2
  go_loopw [5, 6] (fun o i wr => ∃ (j : Nat) (rs : List (Int × Int)) (kk : Nat), i = .int .i64 (j : Int) ∧ rs.length + j ≤ 5 ∧ goodL rs = true ∧ OwnR wr w.heap.size o rs ∧ kk + 4 * j ≤ k + 30 ∧ Cur wr bp A n c kk ∧ w.grownBy wr (some bp)) (fun _ i _ => (intOf i).toNat)
  case atStart => exact ⟨j0, [], k2, rfl, by simp; omega, rfl, World.ownsRow_nil _ _ _ _, by omega, HC2.out, g2⟩
  case round =>
    obtain ⟨j, rs, kk, rfl, hl3, hgd, hown, hkk, hcu, G⟩ := hrel
    have Hown := Lib.hid hown
    have Hcu := Lib.hid hcu
    have Hgd := Lib.hid hgd
    have hgs := G.size
    obtain ⟨Ao, co, rfl⟩ := OwnR.shape hown
    have Hrl := Lib.hid (Rl_of_own hown rfl)
    clear hown hcu hgd HC HC2
    by_cases hj : 0 < j
    · have hj1 : (0 : Int) < (j : Int) := by omega
      have hwj : IntKind.i64.wrap ((j : Int) - 1) = ((j - 1 : Nat) : Int) := (IntWalk.i64_in _ (by omega)).trans (by omega)
      go_wp2_with (at_builtin; refine wp_app_rules _ rfl _ _ rfl wr.heap.size _ [] rfl (own_empty0 wr) Ao _ co rs rfl (Rl.below Hrl.out ((Below.refl _ _).alloc (Nat.le_refl _) _)) rfl (by simp; omega) (by simp) ?_; intro v5 w5 o5 b5)
      have O5 := Lib.hid o5
      have hs5 := b5.size
      rw [World.size_alloc] at hs5
      have HC5 := Lib.hid ((Hcu.out.alloc (.cells #[] 39)).stepK b5 (by omega))
      have r5 : wr.grownBy w5 (some bp) := grown_stepK (World.grownBy_alloc wr (.cells #[] 39) (some bp)) b5 (Nat.le_refl _)
      clear o5 b5
      go_wp2_with fail
      refine (rule_c _ bp A n c kk HC5.out hn (by omega)).mono ?_
      rintro e w6 ⟨⟨E, R, rfl, hE2, hE15, hR⟩, ⟨k6, hk6, hc6⟩, g6⟩
      have HC6 := Lib.hid hc6
      have O6 := Lib.hid (O5.out.grownK g6 (by omega))
      have hs6 := g6.size
      have r6 := grown_trans r5 g6
      clear hc6 g6 r5
      go_wp2_with (at_builtin; refine wp_app_rule _ rfl _ _ rfl wr.heap.size _ _ rfl O6.out _ _ rfl (by simp; omega) (by omega) ?_; intro v7 w7 o7 b7)
      rw [List.nil_append] at o7
      have r7 := grown_stepK r6 b7 (Nat.le_refl _)
      have HC7 := Lib.hid (HC6.out.stepK b7 (by omega))
      have hg7 : goodL (rs ++ [((E : Int), (R : Int))]) = true := good_moreK Hgd.out (by omega) (by omega) (by omega)
      have hl7 : (rs ++ [((E : Int), (R : Int))]).length = rs.length + 1 := by rw [List.length_append, List.length_singleton]
      obtain ⟨ss, hss⟩ : ∃ x, rs ++ [((E : Int), (R : Int))] = x := ⟨_, rfl⟩
      rw [hss] at o7 hg7 hl7
      obtain ⟨A7, c7, rfl⟩ := OwnR.shape o7
      have O7 := Lib.hid o7
      have R7 := Rl_of_own o7 rfl
      have Own7 := Lib.hid (Hown.out.grownK r7 hlt)
      have G7 := grown_trans G r7
      have Sp := Lib.hid (fun W A c (hW : Rl W A ss) => siPeriod_c W A ss.length c ss hW rfl hg7)
      obtain ⟨V, hV⟩ : ∃ x, perF ss = x := ⟨_, rfl⟩
      rw [hV] at Sp
      have Hg7 := Lib.hid hg7
      have Hl7 := Lib.hid hl7
      have Hrs := Lib.hid (show rs.length + j ≤ 5 from hl3)
      clear o7 b7 r6 r7 hss hV hg7 hl7 O5 O6 HC5 HC6 G
      go_wp2_with fail
      refine (Sp.out _ _ _ R7).mono ?_
      rintro e w8 ⟨rfl, b8⟩
      have R8 := R7.below b8
      have hs8 := b8.size
      have G8 := grown_stepK G7 b8 (by have := G7.size; omega)
      have HC8 := Lib.hid (HC7.out.stepK b8 HC7.out.lt)
      have Own8 := Lib.hid (Own7.out.below b8)
      have O8 := Lib.hid (O7.out.below b8)
      clear R7 b8 G7 HC7 Own7 O7
      by_cases hv : 0 < V
      · have hv2 : decide (0 < V) = true := decide_eq_true hv
        go_wp2_with fail
        refine (Sp.out _ _ _ R8).mono ?_
        rintro e w9 ⟨rfl, b9⟩
        have G9 := grown_stepK G8 b9 (by have := G8.size; omega)
        have HC9 := Lib.hid (HC8.out.stepK b9 HC8.out.lt)
        have Own9 := Lib.hid (Own8.out.below b9)
        have O9 := Lib.hid (O8.out.below b9)
        clear R8 b9 G8 HC8 Own8 O8
        by_cases h3 : V ≤ 3000
        · have h32 : decide (V ≤ 3000) = true := decide_eq_true h3
          go_wp2
          go_roundw
          case rel => exact ⟨j - 1, ss, k6, by first | go_num | (congr 1; omega), by have := Hl7.out; omega, Hg7.out, OwnR.mono O9.out hgs, by omega, HC9.out, G9⟩
          case measure => simp [intOf]; omega
        · have h32 : decide (V ≤ 3000) = false := decide_eq_false h3
          go_wp2
          go_roundw
          case rel => exact ⟨j - 1, rs, k6, by first | go_num | (congr 1; omega), by omega, Hgd.out, Own9.out, by omega, HC9.out, G9⟩
          case measure => simp [intOf]; omega
      · have hv2 : decide (0 < V) = false := decide_eq_false hv
        go_wp2
        go_roundw
        case rel => exact ⟨j - 1, rs, k6, by first | go_num | (congr 1; omega), by omega, Hgd.out, Own8.out, by omega, HC8.out, G8⟩
        case measure => simp [intOf]; omega
    · have hj1 : ¬ (0 : Int) < (j : Int) := by omega
      go_wp2
      go_ret
      have hl5 : rs.length ≤ 5 := by omega
      refine ⟨?_, ⟨kk, by omega, Hcu.out⟩, G⟩
      first | exact ⟨_, _, rfl, Hown.out, hl5⟩ | exact ⟨_, rfl, _, Hown.out, hl5⟩

set_option maxHeartbeats 2000000 in
theorem rules_c (w : World) (bp : Nat) (A : Option Addr) (n c k : Nat) (h : Cur w bp A n c k) (hn : n ≤ 4294967296) (hk : k ≤ 4294967000) :
    Calls Try.prog 46 #[.pointer (some ⟨bp, 0, none⟩)] w fun en w' => (∃ v rs, en = .returned v ∧ OwnR w' w.heap.size v rs ∧ rs.length ≤ 20) ∧ (∃ k', k' ≤ k + 80 ∧ Cur w' bp A n c k') ∧ w.grownBy w' (some bp) := by
  have HC := Lib.hid h
  have hlt := h.lt
  clear h
  go_enter Try.func46, Try.ntmps46
  go_wp2_with fail
  refine (sureRules_c _ bp A n c k HC.out hn (by omega)).mono ?_
  rintro e w2 ⟨⟨v2, rs, rfl, o2, hl2⟩, ⟨k2, hk2, hc2⟩, g2⟩
  have HC2 := Lib.hid hc2
  have hs2 := g2.size
  have Ho2 := Lib.hid o2
  clear hc2 o2
  go_wp2_with fail
  refine (pick_c _ bp A n c k2 16 HC2.out hn (by omega) (by omega) (by omega)).mono ?_
  rintro e w4 ⟨⟨x, rfl, hx⟩, ⟨k4, hk4, hc4⟩, g4⟩
  have HC4 := Lib.hid hc4
  have Ho4 := Lib.hid (Ho2.out.grownK g4 hlt)
  have hs4 := g4.size
  have G4 := grown_trans g2 g4
  clear hc4 HC HC2 Ho2
  by_cases h0 : x = 0
  · have e0 : ((x : Int) == 0) = true := by rw [beq_iff_eq]; omega
    clear h0
    go_wp2_with fail
    refine (among_c _ bp A n c k4 _ 5 _ [0, 1, 60, 61, -1] (HC4.out.alloc _) (Il_alloc _ _ _ _ rfl) (by omega) hn (by omega) rfl (by omega) (by omega)).mono ?_
    rintro e w5 ⟨⟨v, rfl, _⟩, ⟨k5, hk5, hc5⟩, g5⟩
    have g5' := grown_trans (World.grownBy_alloc w4 _ (some bp)) g5
    have HC5 := Lib.hid hc5
    have Ho5 := Lib.hid (Ho4.out.grownK g5' hlt)
    have hs5 := g5'.size
    clear hc5
    go_wp2_with fail
    refine (among_c _ bp A n c k5 _ 5 _ [0, 1, -1, 59, 60] (HC5.out.alloc _) (Il_alloc _ _ _ _ rfl) (by omega) hn (by omega) rfl (by omega) (by omega)).mono ?_
    rintro e w7 ⟨⟨u, rfl, _⟩, ⟨k7, hk7, hc7⟩, g7⟩
    have g7' := grown_trans (World.grownBy_alloc w5 _ (some bp)) g7
    have HC7 := Lib.hid hc7
    have Ho7 := Lib.hid (Ho5.out.grownK g7' hlt)
    have hs7 := g7'.size
    have G7 := grown_trans G4 (grown_trans g5' g7')
    clear hc7
    go_wp2_with (at_builtin; refine wp_app_rule _ rfl _ _ rfl w.heap.size _ _ rfl Ho7.out _ _ rfl (by omega) (by omega) ?_; intro v' w6 o6 b6)
    go_wp2
    go_ret
    exact ⟨⟨_, _, rfl, o6, by rw [List.length_append, List.length_singleton]; omega⟩, ⟨k7, by omega, HC7.out.stepK b6 hlt⟩, grown_stepK G7 b6 (Nat.le_refl _)⟩
  have e0 : ((x : Int) == 0) = false := by rw [beq_eq_false_iff_ne]; omega
  clear h0
  by_cases h1 : x = 1
  · have e1 : ((x : Int) == 1) = true := by rw [beq_iff_eq]; omega
    clear h1
    go_wp2
    go_loopw [3] (fun o wr => ∃ (rs : List (Int × Int)) (kk : Nat), rs.length ≤ 13 ∧ OwnR wr w.heap.size o rs ∧ kk + 2 * (14 - rs.length) ≤ k + 78 ∧ Cur wr bp A n c kk ∧ w.grownBy wr (some bp)) (fun o _ => 14 - slK o)
    case atStart => exact ⟨rs, k4, by omega, Ho4.out, by omega, HC4.out, G4⟩
    case round =>
      obtain ⟨rs2, kk, hl12, hown, hkk, hcu, G9⟩ := hrel
      have Hown9 := Lib.hid hown
      have Hcu9 := Lib.hid hcu
      obtain ⟨A9, c9, rfl⟩ := OwnR.shape hown
      clear hown hcu
      go_wp2_with fail
      refine (pick_c _ bp A n c kk 2 Hcu9.out hn (by omega) (by omega) (by omega)).mono ?_
      rintro e w5 ⟨⟨y, rfl, hy⟩, ⟨k5, hk5, hc5⟩, g5⟩
      have HC5 := Lib.hid hc5
      have Ho5 := Lib.hid (Hown9.out.grownK g5 hlt)
      have G5 := grown_trans G9 g5
      have hgs5 := G5.size
      have hwy : IntKind.i64.wrap (12 + (y : Int)) = 12 + (y : Int) := IntWalk.i64_in _ (by omega)
      clear hc5
      by_cases hlt12 : rs2.length < 12 + y
      · have hi12 : (rs2.length : Int) < 12 + (y : Int) := by omega
        have hi13 : decide ((rs2.length : Int) < 12 + (y : Int)) = true := decide_eq_true hi12
        go_wp2_with (at_builtin; refine wp_app_rule _ rfl _ _ rfl w.heap.size _ _ rfl Ho5.out _ _ rfl (by omega) (by omega) ?_; intro v' w6 o6 b6)
        have o6' := Lib.hid o6
        obtain ⟨A6, c6, rfl⟩ := OwnR.shape o6
        clear o6
        go_roundw
        case rel => exact ⟨_, k5, by rw [List.length_append, List.length_singleton]; omega, o6'.out, by rw [List.length_append, List.length_singleton]; omega, HC5.out.stepK b6 hlt, grown_stepK G5 b6 (Nat.le_refl _)⟩
        case measure => simp [slK]; omega
      · have hi12 : ¬ (rs2.length : Int) < 12 + (y : Int) := by omega
        have hi13 : decide ((rs2.length : Int) < 12 + (y : Int)) = false := decide_eq_false hi12
        go_wp2
        go_ret
        have hl20 : rs2.length ≤ 20 := by omega
        have hk40 : k5 ≤ k + 80 := by omega
        refine ⟨?_, ⟨k5, hk40, HC5.out⟩, G5⟩
        first | exact ⟨_, _, rfl, Ho5.out, hl20⟩ | exact ⟨_, rfl, _, Ho5.out, hl20⟩
  have e1 : ((x : Int) == 1) = false := by rw [beq_eq_false_iff_ne]; omega
  clear h1
  by_cases h2 : x = 2
  · have e2 : ((x : Int) == 2) = true := by rw [beq_iff_eq]; omega
    clear h2
    have OL := Lib.hid (own_litR w4 3 [(59, 0), (53, 1), (47, 2)] #[.int .i64 59, .int .i64 0, .int .i64 53, .int .i64 1, .int .i64 47, .int .i64 2] rfl rfl (by omega))
    go_wp2
    go_ret
    have O3 := OwnR.mono OL.out (show w.heap.size ≤ w4.heap.size by omega)
    have hl3 : [((59 : Int), (0 : Int)), (53, 1), (47, 2)].length ≤ 20 := by decide
    refine ⟨?_, ⟨k4, by omega, HC4.out.alloc _⟩, grown_trans G4 (World.grownBy_alloc _ _ _)⟩
    first | exact ⟨_, _, rfl, O3, hl3⟩ | exact ⟨_, rfl, _, O3, hl3⟩
  have e2 : ((x : Int) == 2) = false := by rw [beq_eq_false_iff_ne]; omega
  clear h2
  go_wp2
  go_ret
  have hl20 : rs.length ≤ 20 := by omega
  refine ⟨?_, ⟨k4, by omega, HC4.out⟩, G4⟩
  first | exact ⟨_, _, rfl, Ho4.out, hl20⟩ | exact ⟨_, rfl, _, Ho4.out, hl20⟩


end Go.Proofs.Ytjoklbkbggdlgaa
