import Derived.Test.YtgnmookklplnmaaTE
namespace Go.Proofs.Ytgnmookklplnmaa
open Go.RowKit
set_option linter.unusedVariables false
set_option linter.unusedSimpArgs false

/-- All open patterns of n offsets with a width. -/
def rlA (n W : Nat) : List (List Int) := lkN W (n - 1) [0]
theorem rlA_len {n W : Nat} (hn : n ≤ 6) (hW : W ≤ 30) : (rlA n W).length ≤ 923521 := by
  have h := lkN_len hW (n - 1) [0]
  have h2 : 31 ^ (n - 1 - 1) ≤ 31 ^ 4 := Nat.pow_le_pow_right (by omega) (by omega)
  rw [rlA]
  omega
theorem lkX_mem {g : List Int → List (List Int)} {bs ys : List Int} : ∀ f x, ys ∈ lkX g bs f x → ∃ z : Nat, ys ∈ g (bs ++ [(z : Int)])
  | 0, x, h => by simp [lkX] at h
  | f + 1, x, h => by
    rw [lkX, List.mem_append] at h
    rcases h with h | h
    · split at h
      · exact ⟨x, h⟩
      · cases h
    · exact lkX_mem f (x + 1) h
theorem lkN_size {W : Nat} : ∀ l bs ys, ys ∈ lkN W l bs → ys.length = bs.length + l
  | 0, bs, ys, h => by
    rw [lkN] at h
    split at h
    · rw [List.mem_singleton] at h; subst h; rfl
    · cases h
  | l + 1, bs, ys, h => by
    rw [lkN] at h
    obtain ⟨z, hz⟩ := lkX_mem _ _ h
    have := lkN_size l _ _ hz
    rw [List.length_append, List.length_singleton] at this
    omega
theorem rlA_size {n W : Nat} (hn : 1 ≤ n) {ys : List Int} (h : ys ∈ rlA n W) : ys.length = n := by
  have := lkN_size _ _ _ h
  simp at this
  omega

theorem reLook_all (W o : Nat) (hW : W ≤ 30) : ∀ l, l ≤ 5 → LookOk W o l
  | 0, _ => reLook_0 W o hW
  | l + 1, h => reLook_s W o l hW (by omega) (reLook_all W o hW l (by omega))
theorem OwnLL.elem {w : World} {B n c : Nat} {A : Option Addr} {ps : List (List Int)} (h : OwnLL w B (.slice A n c) ps) {i : Nat} (hi : i < ps.length) : ∃ g u, A = some ⟨g, 0, none⟩ ∧ w.cell? ⟨g, i, none⟩ = some u ∧ OwnI w B u (psL ps i) := by
  obtain ⟨vs, h1, h2, _⟩ := h
  have hn : n = ps.length := by
    rcases h1.2 with ⟨e, h0⟩ | ⟨g, cap, cur, e, _⟩
    · omega
    · simp only [Value.slice.injEq] at e; exact e.2.1
  subst hn
  obtain ⟨g, rfl, _, hg⟩ := own_form h1 (by omega)
  obtain ⟨u, hu, ho⟩ := h2 i hi
  exact ⟨g, u, rfl, (World.ownsRow.cellAt h1 i (by omega)).trans hu, ho⟩
theorem below_kept2 {w w2 w' : World} {o : Nat} {v' : Value} (h : Below w.heap.size w w2) (ho : w.heap.size ≤ o) (k : Kept2 w2 w' o (.slice none 0 0) v') : Below w.heap.size w w' :=
  ⟨k.os.trans h.os, k.tape.trans h.tape, k.output.trans h.output, Nat.le_trans h.size k.size, fun i hi => (k.block i (Nat.lt_of_lt_of_le hi h.size) (by omega) (by simp [Value.ownBlock])).trans (h.block i hi)⟩

set_option maxRecDepth 100000 in
set_option maxHeartbeats 800000 in
theorem reAll_c (w : World) (n W : Nat) (h1 : 1 ≤ n) (h6 : n ≤ 6) (hW : W ≤ 30) :
    Calls Try.prog 71 #[.int .i64 (n : Int), .int .i64 (W : Int)] w fun en w' => (∃ v, en = .returned v ∧ OwnLL w' w.heap.size v (rlA n W)) ∧ Below w.heap.size w w' := by
  obtain ⟨w1, hw1⟩ : ∃ w1, w.alloc (.cells #[.slice none 0 0] 38) = w1 := ⟨_, rfl⟩
  have hs1 : w1.heap.size = w.heap.size + 1 := by rw [← hw1]; simp
  have h1o : w1.heap[w.heap.size]? = some (.cells #[.slice none 0 0] 38 (0, 0)) := by rw [← hw1]; exact heap_alloc_new w _
  have hb1 : Below w.heap.size w w1 := by rw [← hw1]; exact (Below.refl _ _).alloc (Nat.le_refl _) _
  have hb2 : Below w1.heap.size w1 (w1.alloc (.cells #[.int .i64 0] 3)) := (Below.refl _ _).alloc (Nat.le_refl _) _
  have Hk := Lib.hid (reLook_all W w.heap.size hW (n - 1) (by omega) ((n : Int) - 1) (by omega) (w1.alloc (.cells #[.int .i64 0] 3)) w1.heap.size 0 1 1 [0] (.slice none 0 0) [] (rlA n W) (by simp)
    (fun k hk => by
      have e : k = 0 := by simp at hk; omega
      subst e
      exact cell_of_row _ w1.heap.size 0 _ _ _ (heap_alloc_new w1 _)) rfl (Nat.le_refl _) (by omega) (fun k hk => by
      have e : k = 0 := by simp at hk; omega
      subst e
      exact ⟨by decide, by decide⟩) (by omega) (by simp [Value.ownBlock]) ((hb2.block _ (by omega)).trans h1o) (OwnLL.nil _ _) (by rw [List.nil_append, rlA]) (by have := rlA_len h6 hW; omega))
  have Hw1 := Lib.hid hw1
  clear h1o hw1
  go_enter Try.func71, Try.ntmps71
  go_wp2_with fail
  rw [Hw1.out, ← hs1]
  refine Hk.out.mono ?_
  rintro e w3 ⟨rfl, v3, ho3, hO3, hK3⟩
  have hc3 : w3.cell? ⟨w.heap.size, 0, none⟩ = some v3 := cell_of_row w3 w.heap.size 0 _ _ _ ho3
  have hb3 : Below w.heap.size w (w1.alloc (.cells #[.int .i64 0] 3)) := hb1.trans (hb2.mono (by omega))
  have hb4 := below_kept2 hb3 (Nat.le_refl _) hK3
  obtain ⟨A3, c3, rfl⟩ := hO3.shape
  clear ho3 hK3
  go_wp2
  go_ret
  exact ⟨⟨_, rfl, hO3.mono (by omega)⟩, hb4⟩

/-- The first open pattern of n offsets with the least width, from W on. -/
def noG (n : Nat) : Nat → Nat → List Int × Bool
  | 0, _ => ([], false)
  | f + 1, W => if 0 < (rlA n W).length then (psL (rlA n W) 0, true) else noG n f (W + 1)
theorem noG_yes {n f W : Nat} (h : 0 < (rlA n W).length) : noG n (f + 1) W = (psL (rlA n W) 0, true) := by rw [noG, if_pos h]
theorem noG_no {n f W : Nat} (h : ¬ 0 < (rlA n W).length) : noG n (f + 1) W = noG n f (W + 1) := by rw [noG, if_neg h]
def noV (n : Int) : List Int × Bool := if inB n 1 6 then noG n.toNat 31 0 else ([], false)
theorem noV_no {n : Int} (h : inB n 1 6 = false) : noV n = ([], false) := by rw [noV, h]; rfl
theorem noV_yes {n : Nat} (h : inB (n : Int) 1 6 = true) : noV (n : Int) = noG n 31 0 := by rw [noV, h, Int.toNat_natCast]; rfl

set_option maxRecDepth 100000 in
set_option maxHeartbeats 800000 in
theorem spec_NarrowestOpen_c (w : World) (n : Int) :
    Calls Try.prog 31 #[.int .i64 n] w fun en w' => (∃ v, en = .returned (.tuple #[v, .bool (noV n).2]) ∧ OwnI w' w.heap.size v (noV n).1) ∧ Below w.heap.size w w' := by
  cases hk : inB n 1 6 with
  | false =>
    rw [noV_no hk]
    go_enter Try.func31, Try.ntmps31
    go_wp2_with fail
    refine (l1In_c _ _ _ _).mono ?_
    rw [hk]
    rintro e w1 ⟨rfl, rfl⟩
    go_wp2
    go_ret2
    exact ⟨⟨_, rfl, OwnI.nil _ _⟩, Below.refl _ _⟩
  | true =>
    obtain ⟨n1, n6⟩ := inB_true.1 hk
    obtain ⟨N, rfl⟩ := Int.eq_ofNat_of_zero_le (show 0 ≤ n by omega)
    rw [noV_yes hk]
    obtain ⟨T, hT⟩ : ∃ T, noG N 31 0 = T := ⟨_, rfl⟩
    rw [hT]
    have HT := Lib.hid hT
    clear hT
    go_enter Try.func31, Try.ntmps31
    go_wp2_with fail
    refine (l1In_c _ _ _ _).mono ?_
    rw [hk]
    rintro e w1 ⟨rfl, rfl⟩
    go_wp2
    go_loopw [4] (fun i wr => ∃ W : Nat, W ≤ 31 ∧ i = .int .i64 (W : Int) ∧ Hid (noG N (31 - W) W = T) ∧ Below w.heap.size w wr) (fun i _ => 31 - (intOf i).toNat)
    case atStart => exact ⟨0, by omega, rfl, HT, Below.refl _ _⟩
    case round =>
      obtain ⟨W, hW, rfl, hD, hbel⟩ := hrel
      by_cases hlt : W < 31
      · obtain ⟨L, hL⟩ : ∃ L, (rlA N W).length = L := ⟨_, rfl⟩
        have HL := Lib.hid hL
        by_cases hL0 : 0 < L
        · have Hy : Hid (T = (psL (rlA N W) 0, true)) := by
            show _ = _
            rw [← hD.out, show 31 - W = (30 - W) + 1 by omega]
            exact noG_yes (by rw [hL]; exact hL0)
          clear hL
          go_wp2_with fail
          refine (reAll_c _ N W (by omega) (by omega) (by omega)).mono ?_
          rintro e w3 ⟨⟨v3, rfl, o3⟩, b3⟩
          obtain ⟨A3, c3, rfl⟩ := o3.shape
          obtain ⟨g, u, rfl, hcu, hou⟩ := o3.elem (i := 0) (by rw [HL.out]; exact hL0)
          obtain ⟨A4, c4, rfl⟩ := hou.shape
          rw [HL.out]
          clear o3
          go_wp2
          go_ret2
          exact ⟨⟨_, by rw [Hy.out]; rfl, by rw [Hy.out]; exact OwnI.mono hou hbel.size⟩, hbel.trans (b3.mono hbel.size)⟩
        · have Hy : Hid (noG N (31 - (W + 1)) (W + 1) = T) := by
            show _ = _
            rw [← hD.out, show 31 - W = (31 - (W + 1)) + 1 by omega]
            exact (noG_no (by rw [hL]; exact hL0)).symm
          have hLz : L = 0 := by omega
          subst hLz
          clear hL
          go_wp2_with fail
          refine (reAll_c _ N W (by omega) (by omega) (by omega)).mono ?_
          rintro e w3 ⟨⟨v3, rfl, o3⟩, b3⟩
          obtain ⟨A3, c3, rfl⟩ := o3.shape
          rw [HL.out]
          clear o3
          go_wp2
          go_roundw
          case rel => exact ⟨W + 1, by omega, by go_num, Hy, hbel.trans (b3.mono hbel.size)⟩
          case measure => simp [intOf]; omega
      · have Hy : Hid (T = ([], false)) := by show _ = _; rw [← hD.out, show 31 - W = 0 by omega, noG]
        go_wp2
        go_ret2
        exact ⟨⟨_, by rw [Hy.out]; rfl, by rw [Hy.out]; exact OwnI.nil _ _⟩, hbel⟩

def coO (n W : Int) : Bool := inB n 1 6 && inB W 0 30
def coV (n W : Int) : Int := if coO n W then ((rlA n.toNat W.toNat).length : Int) else 0
theorem coV_no {n W : Int} (h : coO n W = false) : coV n W = 0 := by rw [coV, h]; rfl
theorem coV_yes {n W : Nat} (h : coO (n : Int) (W : Int) = true) : coV (n : Int) (W : Int) = ((rlA n W).length : Int) := by rw [coV, h, Int.toNat_natCast, Int.toNat_natCast]; rfl
set_option maxRecDepth 100000 in
set_option maxHeartbeats 800000 in
theorem spec_CountOpen_c (w : World) (n W : Int) :
    Calls Try.prog 33 #[.int .i64 n, .int .i64 W] w fun en w' => en = .returned (.tuple #[.int .i64 (coV n W), .bool (coO n W)]) ∧ Below w.heap.size w w' := by
  cases hg : inB n 1 6 with
  | false =>
    have ho : coO n W = false := by simp [coO, *]
    rw [coV_no ho, ho]
    clear ho
    go_enter Try.func33, Try.ntmps33
    go_wp2_with fail
    refine (l1In_c _ _ _ _).mono ?_
    rintro e w1 ⟨rfl, rfl⟩
    go_wp2
    go_ret2
    exact ⟨rfl, (Below.refl _ _)⟩
  | true =>
    cases hk : inB W 0 30 with
    | false =>
      have ho : coO n W = false := by simp [coO, *]
      rw [coV_no ho, ho]
      clear ho
      go_enter Try.func33, Try.ntmps33
      go_wp2_with fail
      refine (l1In_c _ _ _ _).mono ?_
      rintro e w1 ⟨rfl, rfl⟩
      go_wp2_with fail
      refine (l1In_c _ _ _ _).mono ?_
      rintro e w2 ⟨rfl, rfl⟩
      go_wp2
      go_ret2
      exact ⟨rfl, (Below.refl _ _)⟩
    | true =>
      have ho : coO n W = true := by simp [coO, *]
      obtain ⟨n1, n6⟩ := inB_true.1 hg
      obtain ⟨w0, w3⟩ := inB_true.1 hk
      obtain ⟨N, rfl⟩ := Int.eq_ofNat_of_zero_le (show 0 ≤ n by omega)
      obtain ⟨M, rfl⟩ := Int.eq_ofNat_of_zero_le w0
      rw [coV_yes ho, ho]
      clear ho
      have Hg := Lib.hid hg
      have Hk := Lib.hid hk
      go_enter Try.func33, Try.ntmps33
      go_wp2_with fail
      refine (l1In_c _ _ _ _).mono ?_
      rintro e w1 ⟨rfl, rfl⟩
      go_wp2_with fail
      refine (l1In_c _ _ _ _).mono ?_
      rintro e w2 ⟨rfl, rfl⟩
      go_wp2_with fail
      refine (reAll_c _ N M (by omega) (by omega) (by omega)).mono ?_
      rintro e w4 ⟨⟨v4, rfl, o4⟩, b4⟩
      obtain ⟨A4, c4, rfl⟩ := o4.shape
      go_wp2
      go_ret2
      exact ⟨rfl, b4⟩

def alO (n W : Int) : Bool := coO n W && decide ((rlA n.toNat W.toNat).length ≤ 300)
def alV (n W : Int) : List (List Int) := if alO n W then rlA n.toNat W.toNat else []
theorem alV_no {n W : Int} (h : alO n W = false) : alV n W = [] := by rw [alV, h]; rfl
theorem alV_yes {n W : Nat} (h : alO (n : Int) (W : Int) = true) : alV (n : Int) (W : Int) = rlA n W := by rw [alV, h, Int.toNat_natCast, Int.toNat_natCast]; rfl
set_option maxRecDepth 100000 in
set_option maxHeartbeats 800000 in
theorem spec_AllOpen_c (w : World) (n W : Int) :
    Calls Try.prog 35 #[.int .i64 n, .int .i64 W] w fun en w' => (∃ v, en = .returned (.tuple #[v, .bool (alO n W)]) ∧ OwnLL w' w.heap.size v (alV n W)) ∧ Below w.heap.size w w' := by
  cases hg : inB n 1 6 with
  | false =>
    have ho : alO n W = false := by simp [alO, coO, *]
    rw [alV_no ho, ho]
    clear ho
    go_enter Try.func35, Try.ntmps35
    go_wp2_with fail
    refine (l1In_c _ _ _ _).mono ?_
    rintro e w1 ⟨rfl, rfl⟩
    go_wp2
    go_ret2
    exact ⟨⟨_, rfl, OwnLL.nil _ _⟩, (Below.refl _ _)⟩
  | true =>
    cases hk : inB W 0 30 with
    | false =>
      have ho : alO n W = false := by simp [alO, coO, *]
      rw [alV_no ho, ho]
      clear ho
      go_enter Try.func35, Try.ntmps35
      go_wp2_with fail
      refine (l1In_c _ _ _ _).mono ?_
      rintro e w1 ⟨rfl, rfl⟩
      go_wp2_with fail
      refine (l1In_c _ _ _ _).mono ?_
      rintro e w2 ⟨rfl, rfl⟩
      go_wp2
      go_ret2
      exact ⟨⟨_, rfl, OwnLL.nil _ _⟩, (Below.refl _ _)⟩
    | true =>
      have hco : coO n W = true := by simp [coO, *]
      obtain ⟨n1, n6⟩ := inB_true.1 hg
      obtain ⟨w0, w3⟩ := inB_true.1 hk
      obtain ⟨N, rfl⟩ := Int.eq_ofNat_of_zero_le (show 0 ≤ n by omega)
      obtain ⟨M, rfl⟩ := Int.eq_ofNat_of_zero_le w0
      have ha : alO (N : Int) (M : Int) = decide ((rlA N M).length ≤ 300) := by rw [alO, hco, Int.toNat_natCast, Int.toNat_natCast]; rfl
      obtain ⟨T, hT⟩ : ∃ T, (alV (N : Int) (M : Int), alO (N : Int) (M : Int)) = T := ⟨_, rfl⟩
      have hT1 : alV (N : Int) (M : Int) = T.1 := by rw [← hT]
      have hT2 : alO (N : Int) (M : Int) = T.2 := by rw [← hT]
      rw [hT1, hT2]
      have Ha := Lib.hid ha
      have HT1 := Lib.hid hT1
      have HT2 := Lib.hid hT2
      clear ha hT hT1 hT2 hco
      have Hg := Lib.hid hg
      have Hk := Lib.hid hk
      go_enter Try.func35, Try.ntmps35
      go_wp2_with fail
      refine (l1In_c _ _ _ _).mono ?_
      rintro e w1 ⟨rfl, rfl⟩
      go_wp2_with fail
      refine (l1In_c _ _ _ _).mono ?_
      rintro e w2 ⟨rfl, rfl⟩
      go_wp2_with fail
      refine (reAll_c _ N M (by omega) (by omega) (by omega)).mono ?_
      rintro e w4 ⟨⟨v4, rfl, o4⟩, b4⟩
      obtain ⟨A4, c4, rfl⟩ := o4.shape
      have O4 := Lib.hid o4
      clear o4
      by_cases hle : (rlA N M).length ≤ 300
      · have ho : alO (N : Int) (M : Int) = true := by rw [Ha.out]; exact decide_eq_true hle
        have H1 : Hid (T.1 = rlA N M) := by show _ = _; rw [← HT1.out]; exact alV_yes ho
        have H2 : Hid (T.2 = true) := by show _ = _; rw [← HT2.out, ho]
        have hlei : ¬ 300 < ((rlA N M).length : Int) := by omega
        clear ho
        go_wp2
        go_ret2
        exact ⟨⟨_, by rw [H2.out]; rfl, by rw [H1.out]; exact O4.out⟩, b4⟩
      · have ho : alO (N : Int) (M : Int) = false := by rw [Ha.out]; exact decide_eq_false hle
        have H1 : Hid (T.1 = []) := by show _ = _; rw [← HT1.out]; exact alV_no ho
        have H2 : Hid (T.2 = false) := by show _ = _; rw [← HT2.out, ho]
        have hlei : 300 < ((rlA N M).length : Int) := by omega
        clear ho
        go_wp2
        go_ret2
        exact ⟨⟨_, by rw [H2.out]; rfl, by rw [H1.out]; exact OwnLL.nil _ _⟩, b4⟩

end Go.Proofs.Ytgnmookklplnmaa
