import Derived.Test.YtihnlacajfakgaaF1
namespace Go.Proofs.Ytihnlacajfakgaa
open Go.RowKit Go.Shelf
attribute [local go_sem] Oper.semAt_some
set_option linter.unusedVariables false
set_option linter.unusedSimpArgs false

set_option maxRecDepth 100000 in
set_option maxHeartbeats 2000000 in
theorem number_in (w : World) (A : Option Addr) (m c : Nat) (xs : List Int) (hA : Il w A xs) (hm : m = xs.length) (hn : m ≤ 1048576) (r : Int) (hg : goodS xs = true) (r1 : 0 ≤ r) (r2 : r ≤ 1000) :
    CallsIn Fence.wide 3 Try.prog 31 #[.slice A m c, .int .i64 r] w fun en w' => en = .returned (.tuple #[.int .i64 (rankI xs (r + 1)), .bool true]) ∧ Below w.heap.size w w' := by
  have Hm := Lib.hid hm
  have Hg := Lib.hid hg
  clear hm
  refine callsIn_of_wp_marks Try.func31 rfl trivial ?_ rfl
  simp only [Try.ntmps31, List.size_toArray, List.length_cons, List.length_nil, Nat.reduceAdd, Nat.reduceSub, Array.replicate_succ, Array.replicate_zero, List.push_toArray, List.append_toArray, List.nil_append, List.cons_append]
  gi_wp2_with (first | (refine ⟨trivial, ?_⟩; gi_at_call 20; refine (callsIn_wide.2 (isStepList_c _ _ _ _ xs hA Hm.out hn)).mono ?_; rw [hg]; rintro e w' ⟨rfl, rfl⟩) | (refine ⟨trivial, ?_⟩; gi_at_call 63; refine (backward_in Fence.wide _ trivial rfl _ _ _ _).mono ?_; rintro e w' ⟨rfl, rfl⟩))
  have bR := Boxed.new w 3 (.int .i64 (r + 1))
  have bN := Boxed.new (w.alloc (.cells #[.int .i64 (r + 1)] 3)) 22 (.slice A m c)
  rw [World.size_alloc] at bN
  have hB0 : Below w.heap.size w ((w.alloc (.cells #[.int .i64 (r + 1)] 3)).alloc (.cells #[.slice A m c] 22)) := ((Below.refl _ w).alloc (Nat.le_refl _) _).alloc (by simp) _
  have hIs : 0 < xs.length → ∃ b off, A = some ⟨b, off, none⟩ ∧ b < w.heap.size ∧ IsAt ((w.alloc (.cells #[.int .i64 (r + 1)] 3)).alloc (.cells #[.slice A m c] 22)) b off xs := fun h => by
    obtain ⟨b, off, e, hb, hr⟩ := hA h
    exact ⟨b, off, e, hb, IsAt.below hr hb hB0⟩
  have hm12 : m ≤ 12 := by rw [Hm.out]; exact goodS_len Hg.out
  refine wpIn_rangeFunc_ownG rfl (by omega) (gf := 79) (lb := #[.pointer (some ⟨w.heap.size + 1, 0, none⟩)]) rfl trivial (_root_.Go.Proofs.enters_of Try.func79 (by kernel_rfl) rfl)
    (back_stops Fence.wide _ trivial rfl (by omega) w.heap.size (w.heap.size + 1) m c A xs _ Hm.out hm12 Hg.out (by simp; omega) (by simp) bN.cell hIs)
    KB.trans (fun W l o o' hl ho hc hw => ⟨belowK_b (by simp; omega) W l o o' hl ho hc hw, fun v hv => cell_kept hv (grownBy_putObj' _ l o') (fun q e => by cases e; exact ⟨_, ho, hc⟩)⟩) (Below.refl _ _) (fun _ => rfl)
    (fun pre W => (W.cell? ⟨w.heap.size, 0, none⟩ = some (.int .i64 (placeF r pre)) ∧ W.frozen? ⟨w.heap.size, 0, none⟩ = false) ∧ Below w.heap.size w W)
    (fun _ _ _ => False)
    (OwnFrom.and (Own.from (fun s A B row hs hg hr => ⟨cell_kept hs.1 hg hr, (frozen_kept hs.1 hg hr).trans hs.2⟩) _) (ownFrom_below (Nat.le_refl _) (by simp; omega)))
    (fun _ _ _ _ _ hs _ _ => hs)
    ⟨⟨(bR.alloc _).cell, (bR.alloc _).frozen⟩, hB0⟩
    (fun x => { tmps := #[.slice A m c, .int .i64 r, undef, undef, .int .i64 0, .bool false, .pointer (some ⟨w.heap.size, 0, none⟩), undef, .int .i64 x.2.1, .slice A m c, .bool true, .bool false, .bool false, .int .i64 r, .bool (decide (r < 0)), .bool (decide (r < 0)), .bool (decide (r < 0)), .int .i64 r, .bool (decide (1000 < r)), .bool (decide (r < 0) || decide (1000 < r)), .int .i64 r, .int .i64 (r + 1), .slice A m c, .func (.func 79) #[] #[.pointer (some ⟨w.heap.size + 1, 0, none⟩)], .int .i64 (x.1 : Int), .int .i64 x.2.1, undef, undef, undef, undef, undef, undef], defers := [] }) ?assign ?body ?done ?stop
  case assign =>
    intro l x W K hK
    gi_wp2
    exact hK
  case body =>
    rintro l pre x W ⟨⟨hc, hf⟩, hB⟩ hlen
    have hx := x.2.2
    obtain ⟨p1, p2⟩ := placeF_le r r1 r2 pre (by omega)
    obtain ⟨q1, q2⟩ := rise_step (placeF r pre) (x.2.1 - 1) p1 (by omega)
    gi_wp2_with (refine ⟨trivial, ?_⟩; gi_at_call 64; refine (CallsIn.inRound l (callsIn_wide.2 (placeBefore_c _ _ _ p1 (by omega) hx.1 (by omega)))).mono ?_; rintro e w' ⟨rfl, rfl⟩)
    exact ⟨(KeepsOthers.setCell _ _ _).from _, ⟨(Below.refl w.heap.size W).setCell (p := ⟨w.heap.size, 0, none⟩) (Nat.le_refl _) _, fun v hv => by rw [World.cell?_setCell_far _ _ _ _ (by simp)]; exact hv⟩, ⟨by rw [placeF_snoc]; exact World.cell?_setCell_same' _ _ _ (by rw [hc]; rfl), by rw [World.frozen?_setCell]; exact hf⟩, hB.setCell (p := ⟨w.heap.size, 0, none⟩) (Nat.le_refl _) _⟩
  case done =>
    rintro D ys W hD rfl ⟨⟨hc, _⟩, hB⟩ hK
    rw [Hm.out, placeF_all Hg.out] at hc
    obtain ⟨p1, p2⟩ := rank_le Hg.out (p := r + 1) (by omega) (by omega) (k := 0) (Nat.zero_le _)
    rw [List.drop_zero] at p1 p2
    gi_wp2
    refine ⟨by simp, .inl ⟨_, _, rfl, run_takeDeferred hK, ?_⟩⟩
    exact ⟨_, results_tmp2 rfl _ _ _, rfl, hB.trans (belowK_b (w := w) (Nat.le_refl _) W D _ _ (by simp at hD; omega) hK rfl rfl)⟩
  case stop =>
    rintro D c pre W _ _ h _
    exact h.elim

set_option maxRecDepth 100000 in
set_option maxHeartbeats 400000 in
theorem impl_NumberOfRank_c (w : World) (A : Option Addr) (m c : Nat) (xs : List Int) (hA : Il w A xs) (hm : m = xs.length) (hn : m ≤ 1048576) (r : Int) :
    Calls Try.prog 31 #[.slice A m c, .int .i64 r] w fun en w' => en = .returned (.tuple #[.int .i64 (numV xs r), .bool (numOk xs r)]) ∧ Below w.heap.size w w' := by
  have Hm := Lib.hid hm
  clear hm
  cases hg : goodS xs with
  | false =>
    have ho : numOk xs r = false := by simp [numOk, hg]
    rw [numV_no ho, ho]
    clear ho
    go_enter Try.func31, Try.ntmps31
    go_wp2_with fail
    refine (isStepList_c _ _ _ _ xs hA Hm.out hn).mono ?_
    rintro e w1 ⟨rfl, rfl⟩
    go_wp2
    go_ret2
    exact ⟨rfl, Below.refl _ _⟩
  | true =>
    by_cases hk : 0 ≤ r
    · by_cases hl : r ≤ 1000
      · have ho : numOk xs r = true := by simp [numOk, inB, hg, hk, hl]
        rw [numV_yes ho, ho]
        exact callsIn_wide.1 (number_in w A m c xs hA Hm.out hn r hg hk hl)
      · have ho : numOk xs r = false := by simp [numOk, inB, hl]
        rw [numV_no ho, ho]
        clear ho
        have Hg := Lib.hid hg
        go_enter Try.func31, Try.ntmps31
        go_wp2_with fail
        refine (isStepList_c _ _ _ _ xs hA Hm.out hn).mono ?_
        rintro e w1 ⟨rfl, rfl⟩
        go_wp2
        go_ret2
        exact ⟨rfl, Below.refl _ _⟩
    · have ho : numOk xs r = false := by simp [numOk, inB, hk]
      rw [numV_no ho, ho]
      clear ho
      have Hg := Lib.hid hg
      go_enter Try.func31, Try.ntmps31
      go_wp2_with fail
      refine (isStepList_c _ _ _ _ xs hA Hm.out hn).mono ?_
      rintro e w1 ⟨rfl, rfl⟩
      go_wp2
      go_ret2
      exact ⟨rfl, Below.refl _ _⟩

end Go.Proofs.Ytihnlacajfakgaa
