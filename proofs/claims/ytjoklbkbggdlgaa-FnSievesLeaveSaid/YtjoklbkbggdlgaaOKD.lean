import Derived.Test.YtjoklbkbggdlgaaOK
namespace Go.Proofs.Ytjoklbkbggdlgaa
open Go.RowKit
set_option maxRecDepth 100000
set_option linter.unusedVariables false
set_option linter.unusedSimpArgs false

/-! Draws told by the bytes alone: the same bytes draw the same. -/
def BytF (w : World) (L : Nat) (A : Option Addr) (n : Nat) (f : Nat → Nat) : Prop :=
  0 < n → ∃ b off, A = some ⟨b, off, none⟩ ∧ b < L ∧ ∀ k, k < n → f k ≤ 255 ∧ w.cell? ⟨b, off + k, none⟩ = some (.int .u8 (f k : Int))
theorem BytF.below {w w' : World} {L n : Nat} {A : Option Addr} {f : Nat → Nat} (h : BytF w L A n f) (hb : Below L w w') : BytF w' L A n f := fun hp => by
  obtain ⟨b, off, e, hL, hc⟩ := h hp
  refine ⟨b, off, e, hL, fun k hk => ?_⟩
  obtain ⟨hx, hy⟩ := hc k hk
  exact ⟨hx, (hb.cell (p := ⟨b, off + k, none⟩) hL).trans hy⟩
theorem BytF.mono {w : World} {L L' n : Nat} {A : Option Addr} {f : Nat → Nat} (h : BytF w L A n f) (hl : L ≤ L') : BytF w L' A n f := fun hp => by
  obtain ⟨b, off, e, hL, hc⟩ := h hp
  exact ⟨b, off, e, by omega, hc⟩
theorem Byt.told {w : World} {L n : Nat} {A : Option Addr} (h : Byt w L A n) : ∃ f, BytF w L A n f := by
  by_cases hp : 0 < n
  · obtain ⟨b, off, e, hL, hc⟩ := h hp
    refine ⟨fun k => if hk : k < n then (hc k hk).choose else 0, fun _ => ⟨b, off, e, hL, fun k hk => ?_⟩⟩
    have := (hc k hk).choose_spec
    simp only [dif_pos hk]
    exact this
  · exact ⟨fun _ => 0, fun h0 => absurd h0 hp⟩
/-- A cursor with its seed. -/
def CurF (w : World) (bp : Nat) (A : Option Addr) (n c k : Nat) (s : Int) (f : Nat → Nat) : Prop :=
  w.heap[bp]? = some (.cells #[.slice A n c, .int .i64 (k : Int), .int .u64 s] 57 (0, 0)) ∧ BytF w bp A n f
theorem CurF.lt {w : World} {bp : Nat} {A : Option Addr} {n c k : Nat} {s : Int} {f : Nat → Nat} (h : CurF w bp A n c k s f) : bp < w.heap.size := (Array.getElem?_eq_some_iff.1 h.1).1
theorem CurF.alloc {w : World} {bp n c k : Nat} {A : Option Addr} {s : Int} {f : Nat → Nat} (h : CurF w bp A n c k s f) (o : Obj) : CurF (w.alloc o) bp A n c k s f := by
  have hlt := h.lt
  exact ⟨((World.grownBy_alloc w o none).block bp hlt (by simp)).trans h.1, h.2.below ((Below.refl bp w).grown (World.grownBy_alloc w o none) (Nat.le_of_lt hlt) (fun k hk => by simp at hk))⟩
theorem curF_new (w : World) (A : Option Addr) (n c : Nat) (f : Nat → Nat) (hB : BytF w w.heap.size A n f) : CurF (w.alloc (.cells #[.slice A n c, .int .i64 0, .int .u64 0] 57)) w.heap.size A n c 0 0 f :=
  ⟨heap_new w _, hB.below ((Below.refl _ w).grown (World.grownBy_alloc w _ none) (Nat.le_refl _) (fun k hk => by simp at hk))⟩
theorem curF_next {w : World} {bp n c k : Nat} {A : Option Addr} {s : Int} {f : Nat → Nat} (hh : w.heap[bp]? = some (.cells #[.slice A n c, .int .i64 (k : Int), .int .u64 s] 57 (0, 0))) (hB : BytF w bp A n f) (q1 q2 : Nat) (S : Int) :
    CurF ((((w.drewN q1).setCell ⟨bp, 1, none⟩ (.int .i64 ((k : Int) + 1))).setCell ⟨bp, 2, none⟩ (.int .u64 S)).drewN q2) bp A n c (k + 1) S f ∧
    w.grownBy ((((w.drewN q1).setCell ⟨bp, 1, none⟩ (.int .i64 ((k : Int) + 1))).setCell ⟨bp, 2, none⟩ (.int .u64 S)).drewN q2) (some bp) := by
  have hg : w.grownBy ((((w.drewN q1).setCell ⟨bp, 1, none⟩ (.int .i64 ((k : Int) + 1))).setCell ⟨bp, 2, none⟩ (.int .u64 S)).drewN q2) (some bp) :=
    grown_trans (grown_trans (grown_trans (grown_drewN w q1 _) (grown_set _ bp 1 _)) (grown_set _ bp 2 _)) (grown_drewN _ q2 _)
  exact ⟨⟨cur_set hh q1 _ _, hB.below (grown_below hg (Nat.le_of_lt (Array.getElem?_eq_some_iff.1 hh).1))⟩, hg⟩
theorem CurF.stepK {w w' : World} {bp n c k B : Nat} {A : Option Addr} {s : Int} {f : Nat → Nat} (h : CurF w bp A n c k s f) (hb : Below B w w') (hB : bp < B) : CurF w' bp A n c k s f :=
  ⟨by rw [hb.block bp hB]; exact h.1, h.2.below (hb.mono (Nat.le_of_lt hB))⟩
set_option maxHeartbeats 1000000 in
theorem nextF_c (f : Nat → Nat) (n k : Nat) (s : Int) (hn : n ≤ 4294967296) (hk : k ≤ 4294967296) : ∃ (x : Nat) (S : Int), x ≤ 255 ∧ ∀ (w : World) (bp : Nat) (A : Option Addr) (c : Nat), CurF w bp A n c k s f →
    Calls Try.prog 79 #[.pointer (some ⟨bp, 0, none⟩)] w fun en w' => en = .returned (.int .i64 (x : Int)) ∧ CurF w' bp A n c (k + 1) S f ∧ w.grownBy w' (some bp) := by
  by_cases hlt : k < n
  · by_cases hf : f k ≤ 255
    · refine ⟨f k, IntKind.u64.wrap (IntKind.u64.wrap (IntKind.u64.wrap (s * 6364136223846793005) + (f k : Int)) + 1442695040888963407), hf, fun w bp A c ⟨hh, hB⟩ => ?_⟩
      have HN := Lib.hid (fun q1 q2 S => curF_next hh hB q1 q2 S)
      obtain ⟨h0, h1, h2, f1, f2⟩ := cur_cells hh
      obtain ⟨b, off, rfl, hb, hc⟩ := hB (by omega)
      obtain ⟨hx, hcx⟩ := hc k hlt
      have hki : (k : Int) < (n : Int) := by omega
      have hke : (k : Int) + 1 ≤ (n : Int) := by omega
      have hne : bp ≠ b := by omega
      clear hc hB hh
      go_enter Try.func79, Try.ntmps79
      go_wp2_with fail
      go_quiet (fail)
      go_wp2_with fail
      go_quiet (fail)
      go_wp2_with fail
      go_quiet (fail)
      go_wp2
      go_ret
      exact ⟨rfl, HN.out _ _ _⟩
    · refine ⟨0, 0, by omega, fun w bp A c ⟨hh, hB⟩ => ?_⟩
      obtain ⟨b, off, _, hb, hc⟩ := hB (by omega)
      exact absurd (hc k hlt).1 hf
  · obtain ⟨x, e, hx⟩ := and255 (IntKind.u64.wrap (IntKind.u64.wrap (s * 6364136223846793005)) + 1442695040888963407)
    refine ⟨x, IntKind.u64.wrap (IntKind.u64.wrap (IntKind.u64.wrap (s * 6364136223846793005)) + 1442695040888963407), hx, fun w bp A c ⟨hh, hB⟩ => ?_⟩
    have HN := Lib.hid (fun q1 q2 S => curF_next hh hB q1 q2 S)
    obtain ⟨h0, h1, h2, f1, f2⟩ := cur_cells hh
    have hki : ¬ ((k : Int) < (n : Int)) := by omega
    have hke : ¬ ((k : Int) + 1 ≤ (n : Int)) := by omega
    clear hB hh
    go_enter Try.func79, Try.ntmps79
    go_wp2_with fail
    go_quiet (fail)
    go_wp2_with fail
    go_quiet (fail)
    go_wp2
    go_ret
    exact ⟨by rw [← e]; rfl, HN.out _ _ _⟩

set_option maxHeartbeats 1000000 in
theorem pickF_c (f : Nat → Nat) (n k : Nat) (s : Int) (m : Nat) (hn : n ≤ 4294967296) (hk : k ≤ 4294967290) (hm : 2 ≤ m) (hm9 : m ≤ 200) : ∃ (x : Nat) (S : Int), x < m ∧ ∀ (w : World) (bp : Nat) (A : Option Addr) (c : Nat), CurF w bp A n c k s f →
    Calls Try.prog 59 #[.pointer (some ⟨bp, 0, none⟩), .int .i64 (m : Int)] w fun en w' => en = .returned (.int .i64 (x : Int)) ∧ CurF w' bp A n c (k + 1) S f ∧ w.grownBy w' (some bp) := by
  obtain ⟨x, S, hx, H⟩ := nextF_c f n k s hn (by omega)
  refine ⟨x % m, S, Nat.mod_lt _ (by omega), fun w bp A c hC => ?_⟩
  have HC := Lib.hid hC
  have HH := Lib.hid H
  have hi : ¬ ((m : Int) ≤ 1) := by omega
  have hm0 : ((m : Int) == 0) = false := by simp; omega
  have hj : ¬ ((200 : Int) < (m : Int)) := by omega
  clear hC H
  go_enter Try.func59, Try.ntmps59
  go_wp2_with fail
  refine (HH.out _ bp A c HC.out).mono ?_
  rintro e w1 ⟨rfl, hc1, g1⟩
  have HC1 := Lib.hid hc1
  clear hc1
  go_wp2
  go_ret
  exact ⟨by simp, HC1.out, g1⟩
theorem oneF_c (f : Nat → Nat) (n k : Nat) (s : Int) (m : Nat) (hn : n ≤ 4294967296) (hk : k ≤ 4294967290) (hm : 2 ≤ m) (hm9 : m ≤ 200) : ∃ (x : Bool) (S : Int), ∀ (w : World) (bp : Nat) (A : Option Addr) (c : Nat), CurF w bp A n c k s f →
    Calls Try.prog 57 #[.pointer (some ⟨bp, 0, none⟩), .int .i64 (m : Int)] w fun en w' => en = .returned (.bool x) ∧ CurF w' bp A n c (k + 1) S f ∧ w.grownBy w' (some bp) := by
  obtain ⟨x, S, hx, H⟩ := pickF_c f n k s m hn hk hm hm9
  refine ⟨((x : Int) == 0), S, fun w bp A c hC => ?_⟩
  have HC := Lib.hid hC
  have HH := Lib.hid H
  clear hC H
  go_enter Try.func57, Try.ntmps57
  go_wp2_with fail
  refine (HH.out _ bp A c HC.out).mono ?_
  rintro e w1 ⟨rfl, hc1, g1⟩
  have HC1 := Lib.hid hc1
  clear hc1
  go_wp2
  go_ret
  exact ⟨by first | rfl | simp, HC1.out, g1⟩
theorem amongF_c (f : Nat → Nat) (n k : Nat) (s : Int) (xs : List Int) (m : Nat) (hn : n ≤ 4294967296) (hk : k ≤ 4294967290) (hx : m = xs.length) (hm : 2 ≤ m) (hm9 : m ≤ 200) : ∃ (v : Int) (S : Int), v ∈ xs ∧ ∀ (w : World) (bp : Nat) (A : Option Addr) (c g d : Nat), CurF w bp A n c k s f → Il w (some ⟨g, 0, none⟩) xs → g ≠ bp →
    Calls Try.prog 58 #[.pointer (some ⟨bp, 0, none⟩), .slice (some ⟨g, 0, none⟩) m d] w fun en w' => en = .returned (.int .i64 v) ∧ CurF w' bp A n c (k + 1) S f ∧ w.grownBy w' (some bp) := by
  obtain ⟨x, S, hx2, H⟩ := pickF_c f n k s m hn hk hm hm9
  refine ⟨ivL xs x, S, by rw [ivL, List.getD_eq_getElem?_getD, List.getElem?_eq_getElem (show x < xs.length by omega)]; exact List.getElem_mem _, fun w bp A c g d hC hX hg => ?_⟩
  have HC := Lib.hid hC
  have HX := Lib.hid hX
  have Hx := Lib.hid hx
  have HH := Lib.hid H
  clear hC hX hx H
  go_enter Try.func58, Try.ntmps58
  go_wp2_with fail
  refine (HH.out _ bp A c HC.out).mono ?_
  rintro e w1 ⟨rfl, hc1, g1⟩
  have HC1 := Lib.hid hc1
  obtain ⟨b, off, e, hb, hc⟩ := HX.out (by have := Hx.out; omega)
  injection e with e
  injection e with e1 e2
  subst e2
  rw [← e1] at hc
  clear e1 hb
  have hcx := g1.cell (hc x (by have := Hx.out; omega)) (by simpa using hg)
  have hcy : w1.cell? ⟨g, x, none⟩ = some (.int .i64 (ivL xs x)) := by simpa using hcx
  have hxi : (x : Int) < (m : Int) := by omega
  clear hc1 hc
  go_wp2
  go_ret
  exact ⟨rfl, HC1.out, g1⟩
set_option maxHeartbeats 1000000 in
theorem ruleF_c (f : Nat → Nat) (n k : Nat) (s : Int) (hn : n ≤ 4294967296) (hk : k ≤ 4294967200) : ∃ (e r : Int) (S : Int), ∀ (w : World) (bp : Nat) (A : Option Addr) (c : Nat), CurF w bp A n c k s f →
    Calls Try.prog 64 #[.pointer (some ⟨bp, 0, none⟩)] w fun en w' => en = .returned (.agg #[.int .i64 e, .int .i64 r]) ∧ CurF w' bp A n c (k + 2) S f ∧ w.grownBy w' (some bp) := by
  obtain ⟨v, S1, hv, H1⟩ := amongF_c f n k s [2, 3, 4, 5, 6, 7, 8, 9, 10, 12, 15] 11 hn (by omega) rfl (by omega) (by omega)
  have hv2 : 2 ≤ v ∧ v ≤ 15 := by simp at hv; omega
  obtain ⟨E, rfl⟩ := Int.eq_ofNat_of_zero_le (show 0 ≤ v by omega)
  obtain ⟨x, S2, hx, H2⟩ := pickF_c f n (k + 1) S1 E hn (by omega) (by omega) (by omega)
  refine ⟨E, x, S2, fun w bp A c hC => ?_⟩
  have HC := Lib.hid hC
  have hlt := hC.lt
  have HH1 := Lib.hid H1
  have HH2 := Lib.hid H2
  clear hC H1 H2 hv
  go_enter Try.func64, Try.ntmps64
  go_wp2_with fail
  refine (HH1.out _ bp A c (w.heap.size + 1) _ ((HC.out.alloc _).alloc _) (Il_new _ _ _ _ _ (by simp) rfl) (by omega)).mono ?_
  rintro e w1 ⟨rfl, hc1, g1⟩
  have HC1 := Lib.hid hc1
  clear hc1
  go_wp2_with fail
  refine (HH2.out _ bp A c HC1.out).mono ?_
  rintro e w2 ⟨rfl, hc2, g2⟩
  have HC2 := Lib.hid hc2
  clear hc2
  have G := grown_trans (World.grownBy_alloc w (.cells #[.int .i64 0, .int .i64 0] 39) (some bp)) (grown_trans (World.grownBy_alloc _ _ (some bp)) (grown_trans g1 g2))
  have hT2 : w2.heap[w.heap.size]? = some (.cells #[.int .i64 0, .int .i64 0] 39 (0, 0)) := by
    have ga := grown_trans g1 g2
    have a1 := ga.block w.heap.size (by simp; omega) (by simp; omega)
    rw [a1]
    exact (Below.heap_alloc _ _ w.heap.size (by simp)).trans (heap_new w _)
  have ta2 : w2.cell? ⟨w.heap.size, 0, none⟩ = some (.int .i64 0) := cell_of_row _ _ 0 _ _ _ hT2
  have tb2 : w2.cell? ⟨w.heap.size, 1, none⟩ = some (.int .i64 0) := cell_of_row _ _ 1 _ _ _ hT2
  have tf2 : w2.frozen? ⟨w.heap.size, 0, none⟩ = false := frozen_of_row _ _ _ _ _ hT2
  have tg2 : w2.frozen? ⟨w.heap.size, 1, none⟩ = false := frozen_of_row _ _ _ _ _ hT2
  have HS : Hid (∀ u1 u2 : Value, Below w.heap.size w2 ((w2.setCell ⟨w.heap.size, 0, none⟩ u1).setCell ⟨w.heap.size, 1, none⟩ u2)) := Lib.hid fun u1 u2 => ((Below.refl w.heap.size w2).setCell (p := ⟨w.heap.size, 0, none⟩) (Nat.le_refl _) u1).setCell (p := ⟨w.heap.size, 1, none⟩) (Nat.le_refl _) u2
  have HG := Lib.hid G
  clear hT2 g1 g2 G
  go_wp2
  refine bodyPost_ret (v := .agg #[.int .i64 (E : Int), .int .i64 (x : Int)]) (by rw [results_cell1K rfl]; go_simp) rfl ⟨rfl, HC2.out.stepK (HS.out _ _) hlt, grown_stepK HG.out (HS.out _ _) (Nat.le_refl _)⟩
set_option maxHeartbeats 1000000 in
theorem DrawIsRuleF_c (f : Nat → Nat) (n : Nat) (hn : n ≤ 4294967296) : ∃ (e r : Int), ∀ (w : World) (A : Option Addr) (c : Nat), BytF w w.heap.size A n f →
    Calls Try.prog 32 #[.slice A n c] w fun en w' => en = .returned (.agg #[.int .i64 e, .int .i64 r]) ∧ Below w.heap.size w w' := by
  obtain ⟨b, S1, H1⟩ := oneF_c f n 0 0 3 hn (by omega) (by omega) (by omega)
  obtain ⟨e1, S2, _, H2⟩ := amongF_c f n 1 S1 [0, 1, 2, 60, 61] 5 hn (by omega) rfl (by omega) (by omega)
  obtain ⟨r1, S3, _, H3⟩ := amongF_c f n 2 S2 [-1, 0, 1, 2, 59, 60] 6 hn (by omega) rfl (by omega) (by omega)
  obtain ⟨e2, r2, S4, H4⟩ := ruleF_c f n 1 S1 hn (by omega)
  have HH1 := Lib.hid H1
  have HH2 := Lib.hid H2
  have HH3 := Lib.hid H3
  have HH4 := Lib.hid H4
  have start : ∀ (w : World) (A : Option Addr) (c : Nat), BytF w w.heap.size A n f → CurF ((w.alloc (.cells #[.int .i64 0, .int .i64 0] 39)).alloc (.cells #[.slice A n c, .int .i64 0, .int .u64 0] 57)) (w.heap.size + 1) A n c 0 0 f := fun w A c hB => by
    have h1 := curF_new (w.alloc (.cells #[.int .i64 0, .int .i64 0] 39)) A n c f ((hB.below ((Below.refl _ _).alloc (Nat.le_refl _) _)).mono (by simp))
    rwa [World.size_alloc] at h1
  have fin : ∀ (w w3 : World) (A : Option Addr) (c : Nat), ((w.alloc (.cells #[.int .i64 0, .int .i64 0] 39)).alloc (.cells #[.slice A n c, .int .i64 0, .int .u64 0] 57)).grownBy w3 (some (w.heap.size + 1)) →
      w3.heap[w.heap.size]? = some (.cells #[.int .i64 0, .int .i64 0] 39 (0, 0)) ∧ Below w.heap.size w w3 := fun w w3 A c G => by
    refine ⟨?_, (((Below.refl _ w).alloc (Nat.le_refl _) _).alloc (by simp) _).grown G (by simp; omega) (fun k hk => by injection hk with hk; omega)⟩
    rw [G.block w.heap.size (by simp; omega) (by simp)]
    exact (Below.heap_alloc _ _ w.heap.size (by simp)).trans (heap_new w _)
  have Hst := Lib.hid start
  have Hfi := Lib.hid fin
  clear H1 H2 H3 H4 start fin
  cases b with
  | true =>
    refine ⟨e1, r1, fun w A c hB => ?_⟩
    have HC := Lib.hid (Hst.out w A c hB)
    clear hB
    go_enter Try.func32, Try.ntmps32
    go_wp2_with fail
    refine (HH1.out _ (w.heap.size + 1) A c HC.out).mono ?_
    rintro e w1 ⟨rfl, hc1, g1⟩
    have HC1 := Lib.hid hc1
    have hlt1 := hc1.lt
    clear hc1
    go_wp2_with fail
    refine (HH2.out _ (w.heap.size + 1) A c w1.heap.size _ (HC1.out.alloc _) (Il_new _ _ _ _ _ rfl rfl) (by omega)).mono ?_
    rintro e w2 ⟨rfl, hc2, g2⟩
    have HC2 := Lib.hid hc2
    have hlt2 := hc2.lt
    clear hc2
    go_wp2_with fail
    refine (HH3.out _ (w.heap.size + 1) A c w2.heap.size _ (HC2.out.alloc _) (Il_new _ _ _ _ _ rfl rfl) (by omega)).mono ?_
    rintro e w3 ⟨rfl, hc3, g3⟩
    obtain ⟨hT2, B3⟩ := Hfi.out w w3 A c (grown_trans g1 (grown_trans (World.grownBy_alloc w1 _ _) (grown_trans g2 (grown_trans (World.grownBy_alloc w2 _ _) g3))))
    have ta2 : w3.cell? ⟨w.heap.size, 0, none⟩ = some (.int .i64 0) := cell_of_row _ _ 0 _ _ _ hT2
    have tb2 : w3.cell? ⟨w.heap.size, 1, none⟩ = some (.int .i64 0) := cell_of_row _ _ 1 _ _ _ hT2
    have tf2 : w3.frozen? ⟨w.heap.size, 0, none⟩ = false := frozen_of_row _ _ _ _ _ hT2
    have tg2 : w3.frozen? ⟨w.heap.size, 1, none⟩ = false := frozen_of_row _ _ _ _ _ hT2
    have HS : Hid (∀ u1 u2 : Value, Below w.heap.size w ((w3.setCell ⟨w.heap.size, 0, none⟩ u1).setCell ⟨w.heap.size, 1, none⟩ u2)) := Lib.hid fun u1 u2 => (B3.setCell (p := ⟨w.heap.size, 0, none⟩) (Nat.le_refl _) u1).setCell (p := ⟨w.heap.size, 1, none⟩) (Nat.le_refl _) u2
    clear hT2 g1 g2 g3 hc3 B3
    go_wp2
    refine bodyPost_ret (v := .agg #[.int .i64 e1, .int .i64 r1]) (by rw [results_cell1K rfl]; go_simp) rfl ⟨rfl, HS.out _ _⟩
  | false =>
    refine ⟨e2, r2, fun w A c hB => ?_⟩
    have HC := Lib.hid (Hst.out w A c hB)
    clear hB
    go_enter Try.func32, Try.ntmps32
    go_wp2_with fail
    refine (HH1.out _ (w.heap.size + 1) A c HC.out).mono ?_
    rintro e w1 ⟨rfl, hc1, g1⟩
    have HC1 := Lib.hid hc1
    clear hc1
    go_wp2_with fail
    refine (HH4.out _ (w.heap.size + 1) A c HC1.out).mono ?_
    rintro e w3 ⟨rfl, hc3, g3⟩
    obtain ⟨hT2, B3⟩ := Hfi.out w w3 A c (grown_trans g1 g3)
    have ta2 : w3.cell? ⟨w.heap.size, 0, none⟩ = some (.int .i64 0) := cell_of_row _ _ 0 _ _ _ hT2
    have tb2 : w3.cell? ⟨w.heap.size, 1, none⟩ = some (.int .i64 0) := cell_of_row _ _ 1 _ _ _ hT2
    have tf2 : w3.frozen? ⟨w.heap.size, 0, none⟩ = false := frozen_of_row _ _ _ _ _ hT2
    have tg2 : w3.frozen? ⟨w.heap.size, 1, none⟩ = false := frozen_of_row _ _ _ _ _ hT2
    have HS : Hid (∀ u1 u2 : Value, Below w.heap.size w ((w3.setCell ⟨w.heap.size, 0, none⟩ u1).setCell ⟨w.heap.size, 1, none⟩ u2)) := Lib.hid fun u1 u2 => (B3.setCell (p := ⟨w.heap.size, 0, none⟩) (Nat.le_refl _) u1).setCell (p := ⟨w.heap.size, 1, none⟩) (Nat.le_refl _) u2
    clear hT2 g1 g3 hc3 B3
    go_wp2
    refine bodyPost_ret (v := .agg #[.int .i64 e2, .int .i64 r2]) (by rw [results_cell1K rfl]; go_simp) rfl ⟨rfl, HS.out _ _⟩

end Go.Proofs.Ytjoklbkbggdlgaa
