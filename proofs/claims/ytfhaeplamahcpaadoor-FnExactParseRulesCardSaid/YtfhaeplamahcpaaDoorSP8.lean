import Derived.Test.YtfhaeplamahcpaaDoorSP7
import Derived.Maps.AppendAt
import Derived.RangeFuncBox
namespace Go.Proofs.YtfhaeplamahcpaaDoor
open Go.RowKit Go.Shelf
attribute [local go_sem] Oper.semAt_some
set_option linter.unusedVariables false
set_option linter.unusedSimpArgs false

set_option maxHeartbeats 1000000 in
/-- strings.SplitSeq(s, ","): three boxes; the function value captures them. -/
theorem seq_c (w : World) (s t : ByteArray) :
    Calls Tryd.prog 16 #[.string s, .string t] w fun e w' => e = .returned (.func (.func 34) #[] #[.pointer (some ⟨w.heap.size + 1, 0, none⟩), .pointer (some ⟨w.heap.size, 0, none⟩), .pointer (some ⟨w.heap.size + 2, 0, none⟩)]) ∧
      w' = ((w.alloc (.cells #[.string s] 9)).alloc (.cells #[.string t] 9)).alloc (.cells #[.int .i64 0] 3) := by
  go_enter Tryd.func16, Tryd.ntmps16
  go_wp2
  go_ret
  exact ⟨rfl, rfl⟩
theorem results_cc {fn : Func} {p q : Tmp} {t u : TypeId} (h : fn.results = #[.cell p t, .cell q u]) (tmps : Array Value) (P : Program) (w : World) :
    (results fn tmps).run P w =
      ((asAddr (tmps.getD p undef)).run P w).andThen fun x w1 => ((loadVar t x).run P w1).andThen fun v w2 => ((asAddr (tmps.getD q undef)).run P w2).andThen fun y w3 => ((loadVar u y).run P w3).andThen fun z w4 => .ok (.tuple #[v, z]) w4 := by
  simp only [results, h]
  simp [Sem.run_bind, Result.andThen]
/-- Between two rounds: what has been read of the pieces that came lies in the box of the list; the two results are as they were. -/
def RI (w : World) (pre : List Pc) (W : World) : Prop :=
  (∃ v rs, pcL (pre.map pcB) = some rs ∧ rs.length = pre.length ∧ Boxed W (w.heap.size + 1 + 1) 22 v ∧ W.ownsRow (w.heap.size + 8) 32 2 v rs.length (cellsR rs)) ∧
    Boxed W w.heap.size 22 (.slice none 0 0) ∧ Boxed W (w.heap.size + 1) 4 (.bool false) ∧ Below w.heap.size w W
/-- Behind a round that has returned. -/
def RX (w : World) (pre : List Pc) (W : World) : Prop :=
  pcL (pre.map pcB) = none ∧ Boxed W w.heap.size 22 (.slice none 0 0) ∧ Boxed W (w.heap.size + 1) 4 (.bool false) ∧ Below w.heap.size w W
theorem boxed_row {X Y : World} {B : Nat} {t : TypeId} {u : Value} {row : Option Nat} (h : Boxed X B t u) (hg : X.grownBy Y row) (hne : ∀ r, row = some r → r ≠ B) : Boxed Y B t u :=
  h.kept hg fun e => hne B e.symm rfl
theorem row_keep {X Y : World} {B0 n : Nat} {v : Value} {xs : List Value} {row : Option Nat} (h : X.ownsRow B0 32 2 v n xs) (hg : X.grownBy Y row) (hr : ∀ r, row = some r → r < B0 ∨ ∃ o : Obj, X.heap[r]? = some o ∧ o.isCells = false) : Y.ownsRow B0 32 2 v n xs := by
  refine World.ownsRow.kept h hg ?_
  rcases h.2 with ⟨e, _⟩ | ⟨g, cap, cur, e, hB, hgc, _⟩
  · exact .inl (by rw [e]; rfl)
  · refine .inr fun e2 => ?_
    rw [e] at e2
    rcases hr g e2.symm with h1 | ⟨o, ho, hc⟩
    · omega
    · rw [hgc] at ho
      cases ho
      cases hc
theorem RI_own (w : World) {D : Nat} (hD : w.heap.size + 3 ≤ D) : OwnFrom D (RI w) := by
  rintro pre X Y row ⟨⟨v, rs, h1, h2, h3, h4⟩, h5, h6, h7⟩ hg hr
  have hne : ∀ B, B < D → ∀ r, row = some r → r ≠ B := fun B hB r e => by have := (hr r e).1; omega
  exact ⟨⟨v, rs, h1, h2, boxed_row h3 hg (hne _ (by omega)), row_keep h4 hg fun r e => .inr (hr r e).2⟩, boxed_row h5 hg (hne _ (by omega)), boxed_row h6 hg (hne _ (by omega)), h7.grown hg h7.size fun r e => by have := (hr r e).1; omega⟩
theorem RX_own (w : World) {D : Nat} (hD : w.heap.size + 3 ≤ D) : OwnFrom D (RX w) := by
  rintro pre X Y row ⟨h1, h5, h6, h7⟩ hg hr
  have hne : ∀ B, B < D → ∀ r, row = some r → r ≠ B := fun B hB r e => by have := (hr r e).1; omega
  exact ⟨h1, boxed_row h5 hg (hne _ (by omega)), boxed_row h6 hg (hne _ (by omega)), h7.grown hg h7.size fun r e => by have := (hr r e).1; omega⟩
theorem RI_cell (w : World) (pre : List Pc) (A : World) (u : Value) (h : RI w pre A) : RI w pre (A.setCell ⟨w.heap.size + 1 + 1 + 1, 0, none⟩ u) := by
  obtain ⟨⟨v, rs, h1, h2, h3, h4⟩, h5, h6, h7⟩ := h
  have hg := grownBy_setCell' A (w.heap.size + 1 + 1 + 1) u
  exact ⟨⟨v, rs, h1, h2, boxed_row h3 hg (fun r e => by cases e; omega), row_keep h4 hg fun r e => by cases e; exact .inl (by omega)⟩, boxed_row h5 hg (fun r e => by cases e; omega), boxed_row h6 hg (fun r e => by cases e; omega), h7.setCell (by show w.heap.size ≤ w.heap.size + 1 + 1 + 1; omega) _⟩
theorem RX_cell (w : World) (pre : List Pc) (A : World) (u : Value) (h : RX w pre A) : RX w pre (A.setCell ⟨w.heap.size + 1 + 1 + 1, 0, none⟩ u) := by
  obtain ⟨h1, h5, h6, h7⟩ := h
  have hg := grownBy_setCell' A (w.heap.size + 1 + 1 + 1) u
  exact ⟨h1, boxed_row h5 hg (fun r e => by cases e; omega), boxed_row h6 hg (fun r e => by cases e; omega), h7.setCell (by show w.heap.size ≤ w.heap.size + 1 + 1 + 1; omega) _⟩
theorem two_cells (w : World) (e r : Int) : ∀ (j : Nat) (u : Value), [Value.int .i64 e, Value.int .i64 r][j]? = some u → (w.alloc (.cells #[.int .i64 e, .int .i64 r] 32)).cell? ((⟨w.heap.size, 0, none⟩ : Addr).add j) = some u
  | 0, u, h => by simp at h; subst h; simp [Addr.add]
  | 1, u, h => by simp at h; subst h; simp [Addr.add]
  | j + 2, u, h => by simp at h
theorem two_one (e r : Int) : ∀ u ∈ [Value.int .i64 e, Value.int .i64 r], u.oneCell' = true := by
  intro u hu
  simp at hu
  rcases hu with rfl | rfl <;> rfl
theorem box_after {w7 w4 : World} {B : Nat} {t : TypeId} {v : Value} {o : Obj} {row : Option Nat} (h : Boxed w7 B t v) (g : (w7.alloc o).grownBy w4 row) (hne : ∀ r, row = some r → r ≠ B) : Boxed w4 B t v := boxed_row (h.alloc o) g hne
theorem round_ok {w W w7 w4 : World} {pre : List Pc} {x : Pc} {v v' : Value} {rs : List (Int × Int)} {e r : Int} (h1 : pcL (pre.map pcB) = some rs) (h2 : rs.length = pre.length) (h3 : Boxed W (w.heap.size + 1 + 1) 22 v)
    (h4 : W.ownsRow (w.heap.size + 8) 32 2 v rs.length (cellsR rs)) (h5 : Boxed W w.heap.size 22 (.slice none 0 0)) (h6 : Boxed W (w.heap.size + 1) 4 (.bool false)) (h7 : Below w.heap.size w W) (hW : w.heap.size + 6 + 1 < W.heap.size)
    (hx : pcR (pcB x) = some (e, r)) (b : Below W.heap.size W w7) (g : (w7.alloc (.cells #[.int .i64 e, .int .i64 r] 32)).grownBy w4 v.ownBlock)
    (o : w4.ownsRow (w.heap.size + 8) 32 2 v' (rs.length + 1) (cellsR rs ++ [.int .i64 e, .int .i64 r])) :
    (w4.setCell ⟨w.heap.size + 1 + 1, 0, none⟩ v').heap[w.heap.size + 6]? = W.heap[w.heap.size + 6]? ∧ (w4.setCell ⟨w.heap.size + 1 + 1, 0, none⟩ v').heap[w.heap.size + 6 + 1]? = W.heap[w.heap.size + 6 + 1]? ∧
      BandK (w.heap.size + 1 + 1 + 1) (w.heap.size + 1 + 1 + 1 + 3) W (w4.setCell ⟨w.heap.size + 1 + 1, 0, none⟩ v') ∧ RI w (pre ++ [x]) (w4.setCell ⟨w.heap.size + 1 + 1, 0, none⟩ v') := by
  have hs := b.size
  have hg : ∀ k, k < w.heap.size + 8 → w4.heap[k]? = W.heap[k]? := fun k hk =>
    (g.block k (by simp; omega) (fun e => by have := (World.ownsRow.lt h4 k e.symm).1; omega)).trans ((Below.heap_alloc w7 _ k (by omega)).trans (b.block k (by omega)))
  have hk : ∀ k, k < w.heap.size + 8 → k ≠ w.heap.size + 1 + 1 → (w4.setCell ⟨w.heap.size + 1 + 1, 0, none⟩ v').heap[k]? = W.heap[k]? := fun k h h' => (Below.heap_setCell w4 ⟨w.heap.size + 1 + 1, 0, none⟩ v' k h').trans (hg k h)
  have hsz : W.heap.size ≤ (w4.setCell ⟨w.heap.size + 1 + 1, 0, none⟩ v').heap.size := by
    have h := g.size
    rw [World.size_alloc] at h
    have h' := (grownBy_setCell' w4 (w.heap.size + 1 + 1) v').size
    omega
  refine ⟨hk _ (by omega) (by omega), hk _ (by omega) (by omega), ⟨hsz, fun k _ h => hk k (by omega) (by omega)⟩, ⟨v', rs ++ [(e, r)], ?_, ?_, ?_, ?_⟩, (hk _ (by omega) (by omega)).trans h5, (hk _ (by omega) (by omega)).trans h6, ?_⟩
  · rw [pcL_snoc, h1, hx]
  · rw [List.length_append, List.length_append, h2]; rfl
  · exact heap_setCell_same w4 (w.heap.size + 1 + 1) 0 #[v] _ v' ((hg _ (by omega)).trans h3)
  · have hr := row_keep o (grownBy_setCell' w4 (w.heap.size + 1 + 1) v') fun r e => by cases e; exact .inl (by omega)
    rw [List.length_append, show cellsR (rs ++ [(e, r)]) = cellsR rs ++ [.int .i64 e, .int .i64 r] by simp [cellsR, List.flatMap_append]]
    exact hr
  · have h8 := (h7.trans (b.mono h7.size)).alloc (Nat.le_trans h7.size hs) (.cells #[.int .i64 e, .int .i64 r] 32)
    exact (h8.grown g h8.size fun k e => by have := (World.ownsRow.lt h4 k e).1; omega).setCell (by show w.heap.size ≤ w.heap.size + 1 + 1; omega) _
theorem round_no {w W w7 : World} {pre : List Pc} {x : Pc} (h5 : Boxed W w.heap.size 22 (.slice none 0 0)) (h6 : Boxed W (w.heap.size + 1) 4 (.bool false)) (h7 : Below w.heap.size w W) (hW : w.heap.size + 6 + 1 < W.heap.size)
    (hx : pcR (pcB x) = none) (b : Below W.heap.size W w7) :
    ((w7.setCell ⟨w.heap.size, 0, none⟩ (.slice none 0 0)).setCell ⟨w.heap.size + 1, 0, none⟩ (.bool false)).heap[w.heap.size + 6]? = W.heap[w.heap.size + 6]? ∧
      ((w7.setCell ⟨w.heap.size, 0, none⟩ (.slice none 0 0)).setCell ⟨w.heap.size + 1, 0, none⟩ (.bool false)).heap[w.heap.size + 6 + 1]? = W.heap[w.heap.size + 6 + 1]? ∧
      RX w (pre ++ [x]) ((w7.setCell ⟨w.heap.size, 0, none⟩ (.slice none 0 0)).setCell ⟨w.heap.size + 1, 0, none⟩ (.bool false)) := by
  have hk : ∀ k, k < w.heap.size + 8 → k ≠ w.heap.size → k ≠ w.heap.size + 1 → ((w7.setCell ⟨w.heap.size, 0, none⟩ (.slice none 0 0)).setCell ⟨w.heap.size + 1, 0, none⟩ (.bool false)).heap[k]? = W.heap[k]? := fun k h h' h'' =>
    (Below.heap_setCell _ ⟨w.heap.size + 1, 0, none⟩ _ k h'').trans ((Below.heap_setCell w7 ⟨w.heap.size, 0, none⟩ _ k h').trans (b.block k (by omega)))
  have k5 : Boxed w7 w.heap.size 22 (.slice none 0 0) := (b.block _ (by omega)).trans h5
  have k6 : Boxed w7 (w.heap.size + 1) 4 (.bool false) := (b.block _ (by omega)).trans h6
  have j5 : Boxed (w7.setCell ⟨w.heap.size, 0, none⟩ (.slice none 0 0)) w.heap.size 22 (.slice none 0 0) := heap_setCell_same w7 w.heap.size 0 #[.slice none 0 0] _ _ k5
  have j6 : Boxed (w7.setCell ⟨w.heap.size, 0, none⟩ (.slice none 0 0)) (w.heap.size + 1) 4 (.bool false) := boxed_row k6 (grownBy_setCell' w7 _ _) fun r e => by cases e; omega
  refine ⟨hk _ (by omega) (by omega) (by omega), hk _ (by omega) (by omega) (by omega), ?_, boxed_row j5 (grownBy_setCell' _ _ _) (fun r e => by cases e; omega), heap_setCell_same _ (w.heap.size + 1) 0 #[.bool false] _ _ j6, ((h7.trans (b.mono h7.size)).setCell (Nat.le_refl _) _).setCell (by show w.heap.size ≤ w.heap.size + 1; omega) _⟩
  rw [pcL_snoc, hx]
  cases pcL (pre.map pcB) <;> rfl
set_option maxRecDepth 100000 in
set_option maxHeartbeats 4000000 in
theorem readRules_in (w : World) (s : ByteArray) (hs : s.size ≤ 1048576) (hd : s ≠ ⟨#[45]⟩) (hl : LW w) :
    CallsIn Fence.wide 3 Tryd.prog 10 #[.string s] w fun en w' => (∃ v, en = .returned (.tuple #[v, .bool (rdI s).isSome]) ∧ OwnR w' w.heap.size v ((rdI s).getD [])) ∧ Below w.heap.size w w' := by
  have hd1 : (s.toList == [45]) = false := by rw [← dash_list, txtEq, decide_eq_false hd]
  refine callsIn_of_wp_marks Tryd.func10 rfl trivial ?_ rfl
  simp only [Tryd.ntmps10, List.size_toArray, List.length_cons, List.length_nil, Nat.reduceAdd, Nat.reduceSub, Array.replicate_succ, Array.replicate_zero, List.push_toArray, List.append_toArray, List.nil_append, List.cons_append]
  gi_wp2_with (refine ⟨trivial, ?_⟩; gi_at_call 16; refine (callsIn_wide.2 (seq_c _ s ⟨#[44]⟩)).mono ?_; rintro e w1 ⟨rfl, rfl⟩)
  obtain ⟨V1, hV1⟩ : ∃ V1, (w.alloc (.cells #[.slice none 0 0] 22)).alloc (.cells #[.bool false] 4) = V1 := ⟨_, rfl⟩
  obtain ⟨V2, hV2⟩ : ∃ V2, V1.alloc (.cells #[.slice none 0 0] 22) = V2 := ⟨_, rfl⟩
  obtain ⟨V, hV⟩ : ∃ V, ((V2.alloc (.cells #[.string s] 9)).alloc (.cells #[.string ⟨#[44]⟩] 9)).alloc (.cells #[.int .i64 0] 3) = V := ⟨_, rfl⟩
  have z1 : V1.heap.size = w.heap.size + 1 + 1 := by rw [← hV1]; simp
  have z2 : V2.heap.size = w.heap.size + 1 + 1 + 1 := by rw [← hV2]; simp [z1]
  have zV : V.heap.size = w.heap.size + 6 := by rw [← hV]; simp [z2]
  have q1 : V1.heap[w.heap.size]? = some (.cells #[.slice none 0 0] 22 (0, 0)) := by rw [← hV1]; exact (Below.heap_alloc _ _ _ (by simp)).trans (heap_alloc_new _ _)
  have q2 : V1.heap[w.heap.size + 1]? = some (.cells #[.bool false] 4 (0, 0)) := by rw [← hV1]; exact by simpa using heap_alloc_new (w.alloc (.cells #[.slice none 0 0] 22)) (.cells #[.bool false] 4)
  have q3 : V2.heap[w.heap.size + 1 + 1]? = some (.cells #[.slice none 0 0] 22 (0, 0)) := by rw [← hV2, ← z1]; exact heap_alloc_new _ _
  have f2 : ∀ k, k < V2.heap.size → V.heap[k]? = V2.heap[k]? := fun k hk => by
    rw [← hV]
    exact (Below.heap_alloc _ _ k (by simp; omega)).trans ((Below.heap_alloc _ _ k (by simp; omega)).trans (Below.heap_alloc _ _ k hk))
  have f1 : ∀ k, k < V1.heap.size → V2.heap[k]? = V1.heap[k]? := fun k hk => by rw [← hV2]; exact Below.heap_alloc _ _ k hk
  have r1 : Boxed V w.heap.size 22 (.slice none 0 0) := (f2 _ (by omega)).trans ((f1 _ (by omega)).trans q1)
  have r2 : Boxed V (w.heap.size + 1) 4 (.bool false) := (f2 _ (by omega)).trans ((f1 _ (by omega)).trans q2)
  have r3 : Boxed V (w.heap.size + 1 + 1) 22 (.slice none 0 0) := (f2 _ (by omega)).trans q3
  have r4 : V.heap[w.heap.size + 1 + 1 + 1]? = some (.cells #[.string s] 9 (0, 0)) := by rw [← hV, ← z2]; exact (Below.heap_alloc _ _ _ (by simp; omega)).trans ((Below.heap_alloc _ _ _ (by simp)).trans (heap_alloc_new _ _))
  have r5 : V.heap[w.heap.size + 1 + 1 + 1 + 1]? = some (.cells #[.string ⟨#[44]⟩] 9 (0, 0)) := by rw [← hV, ← z2]; exact (Below.heap_alloc _ _ _ (by simp)).trans (by simpa using heap_alloc_new (V2.alloc (.cells #[.string s] 9)) (.cells #[.string ⟨#[44]⟩] 9))
  have r6 : V.heap[w.heap.size + 1 + 1 + 1 + 2]? = some (.cells #[.int .i64 0] 3 (0, 0)) := by rw [← hV, ← z2]; exact by simpa using heap_alloc_new ((V2.alloc (.cells #[.string s] 9)).alloc (.cells #[.string ⟨#[44]⟩] 9)) (.cells #[.int .i64 0] 3)
  have bV : Below w.heap.size w V := by
    rw [← hV, ← hV2, ← hV1]
    exact (((((Below.refl _ _).alloc (Nat.le_refl _) _).alloc (by simp) _).alloc (by simp; omega) _).alloc (by simp; omega) _).alloc (by simp; omega) _ |>.alloc (by simp; omega) _
  rw [hV1, hV2, hV]
  clear hV1 hV2 hV q1 q2 q3 f1 f2 z1 z2
  obtain ⟨i0, hi, hz0, hz1, hz2⟩ := info_parts info_R
  refine range_cell rfl (by omega) (gf := 34) (lb := #[.pointer (some ⟨w.heap.size + 1 + 1 + 1 + 1, 0, none⟩), .pointer (some ⟨w.heap.size + 1 + 1 + 1, 0, none⟩), .pointer (some ⟨w.heap.size + 1 + 1 + 1 + 2, 0, none⟩)]) rfl trivial (_root_.Go.Proofs.enters_of Tryd.func34 (by kernel_rfl) rfl)
    (gs := w.heap.size + 1 + 1 + 1) (lo := w.heap.size + 1 + 1 + 1) (hi := w.heap.size + 1 + 1 + 1 + 3) (by omega) (by omega)
    (spq_stops _ (by omega) (w.heap.size + 1 + 1 + 1) s (by omega) V (by omega) r4 r5 r6) (fun _ => rfl)
    (RI w) (RX w) (RI_own w (by omega)) (RX_own w (by omega)) (RI_cell w) (RX_cell w)
    ⟨⟨_, [], rfl, rfl, r3, World.ownsRow_nil _ _ _ _⟩, r1, r2, bV⟩
    (fun x => { tmps := #[.string s, undef, .pointer (some ⟨w.heap.size, 0, none⟩), .pointer (some ⟨w.heap.size + 1, 0, none⟩), .pointer (some ⟨w.heap.size + 1 + 1, 0, none⟩), .string x.1, undef, undef, undef, undef, undef, undef, undef, .string s, .bool false, .string s, .func (.func 34) #[] #[.pointer (some ⟨w.heap.size + 1 + 1 + 1 + 1, 0, none⟩), .pointer (some ⟨w.heap.size + 1 + 1 + 1, 0, none⟩), .pointer (some ⟨w.heap.size + 1 + 1 + 1 + 2, 0, none⟩)], .string x.1, undef, undef, undef, undef, undef, undef, undef, undef, undef, undef, undef, undef, undef, undef, undef, undef, undef, undef, undef, undef, undef, undef, undef, undef, undef, undef, undef, undef, undef], defers := [] }) ?assign ?body ?done ?stop
  case assign =>
    intro l x W K hK
    gi_wp2
    exact hK
  case body =>
    rintro l pre x W ⟨⟨v, rs, h1, h2, h3, h4⟩, h5, h6, h7⟩ hW hlen
    obtain ⟨hc1, hc2⟩ := cu_size x
    have H2 := Lib.hid h2
    clear h2
    have hL := Lib.hid (hl.below h7)
    rw [zV] at hW ⊢
    by_cases ho1 : isOk (cuE x)
    · obtain ⟨u1, h8⟩ := ho1
      by_cases ho2 : isOk (cuR x)
      · obtain ⟨u2, h9⟩ := ho2
        have HX := Lib.hid (pcR_ok h8 h9)
        gi_wp2
        refine ⟨trivial, ?_⟩
        gi_at_call 17
        refine (CallsIn.inRound l (callsIn_wide.2 (cut_c x W hL.out))).mono ?_
        rintro e5 w5 ⟨rfl, b5⟩
        have hL5 := Lib.hid (hL.out.below b5)
        gi_wp2
        refine ⟨trivial, ?_⟩
        gi_at_call 18
        refine (CallsIn.inRound l (callsIn_wide.2 (atoi_ok (cuE x) w5 hc1 h8))).mono ?_
        rintro e6 w6 ⟨rfl, b6⟩
        have hL6 := Lib.hid (hL5.out.below b6)
        gi_wp2
        refine ⟨trivial, ?_⟩
        gi_at_call 18
        refine (CallsIn.inRound l (callsIn_wide.2 (atoi_ok (cuR x) w6 hc2 h9))).mono ?_
        rintro e7 w7 ⟨rfl, b7⟩
        have b57 := (b5.trans (b6.mono b5.size)).trans (b7.mono (Nat.le_trans b5.size b6.size))
        have d2 : w7.cell? ⟨w.heap.size, 0, none⟩ = some (.slice none 0 0) := (b57.cell (p := ⟨w.heap.size, 0, none⟩) (by show w.heap.size < _; omega)).trans h5.cell
        have d3 : w7.cell? ⟨w.heap.size + 1, 0, none⟩ = some (.bool false) := (b57.cell (p := ⟨w.heap.size + 1, 0, none⟩) (by show w.heap.size + 1 < _; omega)).trans h6.cell
        have d4 : w7.cell? ⟨w.heap.size + 1 + 1, 0, none⟩ = some v := (b57.cell (p := ⟨w.heap.size + 1 + 1, 0, none⟩) (by show w.heap.size + 1 + 1 < _; omega)).trans h3.cell
        have f2 : w7.frozen? ⟨w.heap.size, 0, none⟩ = false := (b57.frozen (p := ⟨w.heap.size, 0, none⟩) (by show w.heap.size < _; omega)).trans h5.frozen
        have f3 : w7.frozen? ⟨w.heap.size + 1, 0, none⟩ = false := (b57.frozen (p := ⟨w.heap.size + 1, 0, none⟩) (by show w.heap.size + 1 < _; omega)).trans h6.frozen
        have hrow := own_below h4 b57
        obtain ⟨A, c, rfl⟩ := OwnR.shape (show OwnR W _ v rs from h4)
        have f4 : w7.frozen? ⟨w.heap.size + 1 + 1, 0, none⟩ = false := (b57.frozen (p := ⟨w.heap.size + 1 + 1, 0, none⟩) (by show w.heap.size + 1 + 1 < _; omega)).trans h3.frozen
        have hb7 : Boxed w7 (w.heap.size + 1 + 1) 22 (.slice A rs.length c) := (b57.block _ (by omega)).trans h3
        have hs7 := b57.size
        have hlr : rs.length ≤ 1048576 := by have := H2.out; omega
        gi_wp2_with (gi_at_builtin; refine wpListIn_append_own _ rfl _ _ 22 rfl (w.heap.size + 8) 32 i0 _ 2 16 Tryd.underlying22 hi hz0 hz1 hz2 rfl (by decide) _ _ _ rfl (World.ownsRow.alloc hrow _) ⟨w7.heap.size, 0, none⟩ 1 1 [.int .i64 u1, .int .i64 u2] rfl rfl (two_cells w7 u1 u2) (two_one u1 u2) (by unfold maxLen; omega) (by omega) (by simp; omega) ?_; intro v' w4 hown' hgrow _; have hb4 := box_after hb7 hgrow (fun r e => by have := (World.ownsRow.lt h4 r e).1; omega); have hv4 := hb4.cell; have hu4 := hb4.frozen; obtain ⟨g', cap', rfl⟩ := ownsRow_succ hown')
        exact round_ok h1 H2.out h3 h4 h5 h6 h7 hW HX.out b57 hgrow hown'
      · have HX := Lib.hid (pcR_bad (x := x) fun h => ho2 h.2)
        have h9 := ho2
        gi_wp2
        refine ⟨trivial, ?_⟩
        gi_at_call 17
        refine (CallsIn.inRound l (callsIn_wide.2 (cut_c x W hL.out))).mono ?_
        rintro e5 w5 ⟨rfl, b5⟩
        have hL5 := Lib.hid (hL.out.below b5)
        gi_wp2
        refine ⟨trivial, ?_⟩
        gi_at_call 18
        refine (CallsIn.inRound l (callsIn_wide.2 (atoi_ok (cuE x) w5 hc1 h8))).mono ?_
        rintro e6 w6 ⟨rfl, b6⟩
        have hL6 := Lib.hid (hL5.out.below b6)
        gi_wp2
        refine ⟨trivial, ?_⟩
        gi_at_call 18
        refine (CallsIn.inRound l (callsIn_wide.2 (atoi_bad (cuR x) w6 hL6.out hc2 h9))).mono ?_
        rintro e7 w7 ⟨⟨u7, te7, pe7, rfl⟩, b7⟩
        have b57 := (b5.trans (b6.mono b5.size)).trans (b7.mono (Nat.le_trans b5.size b6.size))
        have d2 : w7.cell? ⟨w.heap.size, 0, none⟩ = some (.slice none 0 0) := (b57.cell (p := ⟨w.heap.size, 0, none⟩) (by show w.heap.size < _; omega)).trans h5.cell
        have d3 : w7.cell? ⟨w.heap.size + 1, 0, none⟩ = some (.bool false) := (b57.cell (p := ⟨w.heap.size + 1, 0, none⟩) (by show w.heap.size + 1 < _; omega)).trans h6.cell
        have d4 : w7.cell? ⟨w.heap.size + 1 + 1, 0, none⟩ = some v := (b57.cell (p := ⟨w.heap.size + 1 + 1, 0, none⟩) (by show w.heap.size + 1 + 1 < _; omega)).trans h3.cell
        have f2 : w7.frozen? ⟨w.heap.size, 0, none⟩ = false := (b57.frozen (p := ⟨w.heap.size, 0, none⟩) (by show w.heap.size < _; omega)).trans h5.frozen
        have f3 : w7.frozen? ⟨w.heap.size + 1, 0, none⟩ = false := (b57.frozen (p := ⟨w.heap.size + 1, 0, none⟩) (by show w.heap.size + 1 < _; omega)).trans h6.frozen
        gi_wp2
        exact round_no h5 h6 h7 hW HX.out b57
    · have HX := Lib.hid (pcR_bad (x := x) fun h => ho1 h.1)
      have h8 := ho1
      by_cases ho2 : isOk (cuR x)
      · obtain ⟨u2, h9⟩ := ho2
        gi_wp2
        refine ⟨trivial, ?_⟩
        gi_at_call 17
        refine (CallsIn.inRound l (callsIn_wide.2 (cut_c x W hL.out))).mono ?_
        rintro e5 w5 ⟨rfl, b5⟩
        have hL5 := Lib.hid (hL.out.below b5)
        gi_wp2
        refine ⟨trivial, ?_⟩
        gi_at_call 18
        refine (CallsIn.inRound l (callsIn_wide.2 (atoi_bad (cuE x) w5 hL5.out hc1 h8))).mono ?_
        rintro e6 w6 ⟨⟨u6, te6, pe6, rfl⟩, b6⟩
        have hL6 := Lib.hid (hL5.out.below b6)
        gi_wp2
        refine ⟨trivial, ?_⟩
        gi_at_call 18
        refine (CallsIn.inRound l (callsIn_wide.2 (atoi_ok (cuR x) w6 hc2 h9))).mono ?_
        rintro e7 w7 ⟨rfl, b7⟩
        have b57 := (b5.trans (b6.mono b5.size)).trans (b7.mono (Nat.le_trans b5.size b6.size))
        have d2 : w7.cell? ⟨w.heap.size, 0, none⟩ = some (.slice none 0 0) := (b57.cell (p := ⟨w.heap.size, 0, none⟩) (by show w.heap.size < _; omega)).trans h5.cell
        have d3 : w7.cell? ⟨w.heap.size + 1, 0, none⟩ = some (.bool false) := (b57.cell (p := ⟨w.heap.size + 1, 0, none⟩) (by show w.heap.size + 1 < _; omega)).trans h6.cell
        have d4 : w7.cell? ⟨w.heap.size + 1 + 1, 0, none⟩ = some v := (b57.cell (p := ⟨w.heap.size + 1 + 1, 0, none⟩) (by show w.heap.size + 1 + 1 < _; omega)).trans h3.cell
        have f2 : w7.frozen? ⟨w.heap.size, 0, none⟩ = false := (b57.frozen (p := ⟨w.heap.size, 0, none⟩) (by show w.heap.size < _; omega)).trans h5.frozen
        have f3 : w7.frozen? ⟨w.heap.size + 1, 0, none⟩ = false := (b57.frozen (p := ⟨w.heap.size + 1, 0, none⟩) (by show w.heap.size + 1 < _; omega)).trans h6.frozen
        gi_wp2
        exact round_no h5 h6 h7 hW HX.out b57
      · have h9 := ho2
        gi_wp2
        refine ⟨trivial, ?_⟩
        gi_at_call 17
        refine (CallsIn.inRound l (callsIn_wide.2 (cut_c x W hL.out))).mono ?_
        rintro e5 w5 ⟨rfl, b5⟩
        have hL5 := Lib.hid (hL.out.below b5)
        gi_wp2
        refine ⟨trivial, ?_⟩
        gi_at_call 18
        refine (CallsIn.inRound l (callsIn_wide.2 (atoi_bad (cuE x) w5 hL5.out hc1 h8))).mono ?_
        rintro e6 w6 ⟨⟨u6, te6, pe6, rfl⟩, b6⟩
        have hL6 := Lib.hid (hL5.out.below b6)
        gi_wp2
        refine ⟨trivial, ?_⟩
        gi_at_call 18
        refine (CallsIn.inRound l (callsIn_wide.2 (atoi_bad (cuR x) w6 hL6.out hc2 h9))).mono ?_
        rintro e7 w7 ⟨⟨u7, te7, pe7, rfl⟩, b7⟩
        have b57 := (b5.trans (b6.mono b5.size)).trans (b7.mono (Nat.le_trans b5.size b6.size))
        have d2 : w7.cell? ⟨w.heap.size, 0, none⟩ = some (.slice none 0 0) := (b57.cell (p := ⟨w.heap.size, 0, none⟩) (by show w.heap.size < _; omega)).trans h5.cell
        have d3 : w7.cell? ⟨w.heap.size + 1, 0, none⟩ = some (.bool false) := (b57.cell (p := ⟨w.heap.size + 1, 0, none⟩) (by show w.heap.size + 1 < _; omega)).trans h6.cell
        have d4 : w7.cell? ⟨w.heap.size + 1 + 1, 0, none⟩ = some v := (b57.cell (p := ⟨w.heap.size + 1 + 1, 0, none⟩) (by show w.heap.size + 1 + 1 < _; omega)).trans h3.cell
        have f2 : w7.frozen? ⟨w.heap.size, 0, none⟩ = false := (b57.frozen (p := ⟨w.heap.size, 0, none⟩) (by show w.heap.size < _; omega)).trans h5.frozen
        have f3 : w7.frozen? ⟨w.heap.size + 1, 0, none⟩ = false := (b57.frozen (p := ⟨w.heap.size + 1, 0, none⟩) (by show w.heap.size + 1 < _; omega)).trans h6.frozen
        gi_wp2
        exact round_no h5 h6 h7 hW HX.out b57
  case done =>
    rintro xs W hS ⟨⟨v, rs, h1, h2, h3, h4⟩, h5, h6, h7⟩ hK
    rw [hS] at h1
    clear h2
    obtain ⟨A, c, rfl⟩ := OwnR.shape (show OwnR W _ v rs from h4)
    have hN : rdI s = some rs := by rw [rdI]; exact h1
    have HN := Lib.hid hN
    have c4 := h3.cell
    have c2 := h5.cell
    have c3 := h6.cell
    have e2 := h5.frozen
    have e3 := h6.frozen
    have hK2 : ((W.setCell ⟨w.heap.size, 0, none⟩ (.slice A rs.length c)).setCell ⟨w.heap.size + 1, 0, none⟩ (.bool true)).heap[V.heap.size]? = some (.deferred (some [])) :=
      (Below.heap_setCell _ ⟨w.heap.size + 1, 0, none⟩ _ _ (by show V.heap.size ≠ w.heap.size + 1; omega)).trans ((Below.heap_setCell W ⟨w.heap.size, 0, none⟩ _ _ (by show V.heap.size ≠ w.heap.size; omega)).trans hK)
    have j5 : Boxed (W.setCell ⟨w.heap.size, 0, none⟩ (.slice A rs.length c)) w.heap.size 22 (.slice A rs.length c) := heap_setCell_same W w.heap.size 0 #[.slice none 0 0] _ _ h5
    have j6 : Boxed (W.setCell ⟨w.heap.size, 0, none⟩ (.slice A rs.length c)) (w.heap.size + 1) 4 (.bool false) := boxed_row h6 (grownBy_setCell' W _ _) fun r e => by cases e; omega
    have k5 := boxed_row j5 (grownBy_setCell' _ (w.heap.size + 1) (.bool true)) fun r e => by cases e; omega
    have k6 : Boxed ((W.setCell ⟨w.heap.size, 0, none⟩ (.slice A rs.length c)).setCell ⟨w.heap.size + 1, 0, none⟩ (.bool true)) (w.heap.size + 1) 4 (.bool true) := heap_setCell_same _ (w.heap.size + 1) 0 #[.bool false] _ _ j6
    have g1 := row_keep h4 (grownBy_setCell' W w.heap.size (.slice A rs.length c)) fun r e => by cases e; exact .inl (by omega)
    have g2 := row_keep g1 (grownBy_setCell' _ (w.heap.size + 1) (.bool true)) fun r e => by cases e; exact .inl (by omega)
    have l5 := (boxed_row k5 (grownBy_putObj' _ V.heap.size (.deferred none)) fun r e => by cases e; omega).cell
    have l6 := (boxed_row k6 (grownBy_putObj' _ V.heap.size (.deferred none)) fun r e => by cases e; omega).cell
    have l7 := row_keep g2 (grownBy_putObj' _ V.heap.size (.deferred none)) fun r e => by cases e; exact .inr ⟨_, hK2, rfl⟩
    have L7 := Lib.hid l7
    have H8 := Lib.hid (((h7.setCell (p := ⟨w.heap.size, 0, none⟩) (Nat.le_refl _) (.slice A rs.length c)).setCell (p := ⟨w.heap.size + 1, 0, none⟩) (by show w.heap.size ≤ w.heap.size + 1; omega) (.bool true)).grown (grownBy_putObj' _ V.heap.size (.deferred none)) (by have h := (h7.setCell (p := ⟨w.heap.size, 0, none⟩) (Nat.le_refl _) (.slice A rs.length c)).setCell (p := ⟨w.heap.size + 1, 0, none⟩) (by show w.heap.size ≤ w.heap.size + 1; omega) (.bool true); exact h.size) (fun r e => by cases e; omega))
    clear j5 j6 k5 k6 g1 g2 l7 hN
    have m5 := l5
    have m6 := l6
    rw [zV] at m5 m6
    gi_wp2
    refine ⟨by simp, .inl ⟨_, _, rfl, run_takeDeferred hK2, ?_⟩⟩
    refine ⟨.tuple #[.slice A rs.length c, .bool true], by rw [results_cc rfl]; go_simp, ⟨.slice A rs.length c, by rw [HN.out]; rfl, ?_⟩, H8.out⟩
    rw [HN.out]
    exact OwnR.mono (show OwnR _ (w.heap.size + 8) _ rs from L7.out) (by omega)
  case stop =>
    rintro pre W ⟨rest, hS⟩ ⟨h1, h5, h6, h7⟩ hK
    have hN : rdI s = none := by rw [rdI, ← hS]; exact pcL_app_none h1
    have HN := Lib.hid hN
    have l5 := (boxed_row h5 (grownBy_putObj' W V.heap.size (.deferred none)) fun r e => by cases e; omega).cell
    have l6 := (boxed_row h6 (grownBy_putObj' W V.heap.size (.deferred none)) fun r e => by cases e; omega).cell
    have H8 := Lib.hid (h7.grown (grownBy_putObj' W V.heap.size (.deferred none)) h7.size fun r e => by cases e; omega)
    clear hN
    have m5 := l5
    have m6 := l6
    rw [zV] at m5 m6
    gi_wp2
    refine ⟨by simp, .inl ⟨_, _, rfl, run_takeDeferred hK, ?_⟩⟩
    refine ⟨.tuple #[.slice none 0 0, .bool false], by rw [results_cc rfl]; go_simp, ⟨.slice none 0 0, by rw [HN.out]; rfl, ?_⟩, H8.out⟩
    rw [HN.out]
    exact World.ownsRow_nil _ _ _ _
theorem pcL_len : ∀ (l : List (List UInt8)) (rs : List (Int × Int)), pcL l = some rs → rs.length = l.length
  | [], rs, h => by rw [pcL] at h; injection h with h; subst h; rfl
  | x :: t, rs, h => by
    rw [pcL] at h
    cases hx : pcR x with
    | none => rw [hx] at h; cases h
    | some r =>
      cases ht : pcL t with
      | none => rw [hx, ht] at h; cases h
      | some r2 =>
        rw [hx, ht] at h
        injection h with h
        subst h
        rw [List.length_cons, List.length_cons, pcL_len t r2 ht]
theorem sqL_len : ∀ (f : Nat) (l : List UInt8), (sqL f l).length ≤ f + 1
  | 0, _ => Nat.le_refl _
  | f + 1, l => by
    rw [sqL]
    split
    · simp
    · have := sqL_len f (l.drop ((Lib.index l [44]).toNat + 1))
      rw [List.length_cons]
      omega
theorem pcR_nil : pcR [] = none := by decide +kernel
theorem pcL_full : ∀ (l : List (List UInt8)) (rs : List (Int × Int)), pcL l = some rs → ∀ x ∈ l, x ≠ []
  | [], _, _, x, hx => by cases hx
  | y :: t, rs, h, x, hx => by
    rw [pcL] at h
    cases hy : pcR y with
    | none => rw [hy] at h; cases h
    | some r =>
      cases ht : pcL t with
      | none => rw [hy, ht] at h; cases h
      | some r2 =>
        rcases List.mem_cons.1 hx with e | e
        · subst e
          intro e2
          rw [e2, pcR_nil] at hy
          cases hy
        · exact pcL_full t r2 ht x e
theorem sqL_pos : ∀ (f : Nat) (l : List UInt8), 1 ≤ (sqL f l).length
  | 0, _ => Nat.le_refl _
  | f + 1, l => by
    rw [sqL]
    split
    · exact Nat.le_refl _
    · rw [List.length_cons]; omega
theorem sqL_half : ∀ (f : Nat) (l : List UInt8), (∀ x ∈ sqL f l, x ≠ []) → 2 * (sqL f l).length ≤ l.length + 1
  | 0, l, h => by
    have h1 : l ≠ [] := h l (by rw [sqL]; exact List.mem_cons_self)
    have h2 : 0 < l.length := List.length_pos_iff.2 h1
    show 2 * 1 ≤ _
    omega
  | f + 1, l, h => by
    rw [sqL] at h ⊢
    split at h
    · rename_i hc
      rw [if_pos hc]
      have h1 : l ≠ [] := h l List.mem_cons_self
      have h2 : 0 < l.length := List.length_pos_iff.2 h1
      show 2 * 1 ≤ _
      omega
    · rename_i hc
      rw [if_neg hc]
      obtain ⟨i, hi⟩ : ∃ i, (Lib.index l [44]).toNat = i := ⟨_, rfl⟩
      rw [hi] at h ⊢
      have h1 : l.take i ≠ [] := h _ List.mem_cons_self
      have h2 : 0 < (l.take i).length := List.length_pos_iff.2 h1
      rw [List.length_take] at h2
      have h3 := sqL_half f (l.drop (i + 1)) fun x hx => h x (List.mem_cons_of_mem _ hx)
      have h4 := sqL_pos f (l.drop (i + 1))
      rw [List.length_drop] at h3
      rw [List.length_cons]
      omega
theorem rdF_len {s : ByteArray} {rs : List (Int × Int)} (h : rdF s = some rs) : 2 * rs.length ≤ s.size + 1 := by
  rw [rdF] at h
  split at h
  · injection h with h
    subst h
    exact Nat.zero_le _
  · rw [pcL_len _ _ h]
    have h1 := sqL_half s.size s.data.toList (pcL_full _ _ h)
    simpa using h1
set_option maxRecDepth 100000 in
set_option maxHeartbeats 800000 in
theorem readRules_c (w : World) (s : ByteArray) (hs : s.size ≤ 1048576) (hl : LW w) :
    Calls Tryd.prog 10 #[.string s] w fun en w' => (∃ v, en = .returned (.tuple #[v, .bool (rdF s).isSome]) ∧ OwnR w' w.heap.size v ((rdF s).getD [])) ∧ Below w.heap.size w w' := by
  by_cases hd : s = ⟨#[45]⟩
  · rw [show rdF s = some [] by rw [rdF, if_pos hd]]
    have hd1 : (s.toList == [45]) = true := by rw [← dash_list, txtEq, decide_eq_true hd]
    have b2 : Below w.heap.size w (((w.alloc (.cells #[.slice none 0 0] 22)).alloc (.cells #[.bool false] 4))) := ((Below.refl _ _).alloc (Nat.le_refl _) _).alloc (by simp) _
    have B2 := Lib.hid b2
    clear hd b2
    go_enter Tryd.func10, Tryd.ntmps10
    go_wp2
    refine bodyPost_ret (v := .tuple #[.slice none 0 0, .bool true]) (by rw [results_cc rfl]; go_simp) rfl ⟨⟨.slice none 0 0, rfl, World.ownsRow_nil _ _ _ _⟩, ?_⟩
    exact ((Below.refl _ _).alloc (Nat.le_refl _) _).alloc (by simp) _
  · rw [show rdF s = rdI s by rw [rdF, if_neg hd]]
    exact callsIn_wide.1 (readRules_in w s hs hd hl)
theorem impl_ParseRules_c (w : World) (s : ByteArray) (hs : s.size ≤ 1048576) (hl : LW w) :
    Calls Tryd.prog 5 #[.string s] w fun en w' => (∃ v, en = .returned (.tuple #[v, .bool (prB s)]) ∧ OwnR w' w.heap.size v (prL s)) ∧ Below w.heap.size w w' :=
  impl_ParseRules_of w s (readRules_c w s hs hl) fun rs h => by have := rdF_len h; omega
end Go.Proofs.YtfhaeplamahcpaaDoor
