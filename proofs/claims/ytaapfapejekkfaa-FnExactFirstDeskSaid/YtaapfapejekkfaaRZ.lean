import Derived.Test.YtaapfapejekkfaaL0
import Derived.Test.YtaapfapejekkfaaG9
import Derived.Test.YtaapfapejekkfaaM0
import Derived.Test.YtaapfapejekkfaaP0
import Derived.Lib.SmallJoins
namespace Go.Proofs.Ytaapfapejekkfaa
open Go.RowKit Go.ChangeShapes Go.WideShapes Go.ChangeAt Go.Deep
set_option maxRecDepth 100000
set_option linter.unusedVariables false
set_option linter.unusedSimpArgs false

/-- A block with a desk: its rules and its Most. -/
def BoxD (w : World) (g : Nat) (u v : Value) : Prop := w.cell? ⟨g, 0, none⟩ = some u ∧ w.cell? ⟨g, 1, none⟩ = some v ∧ g < w.heap.size
theorem BoxD.below {w w' : World} {g : Nat} {u v : Value} (h : BoxD w g u v) (hb : Below w.heap.size w w') : BoxD w' g u v :=
  ⟨(hb.cell (p := ⟨g, 0, none⟩) h.2.2).trans h.1, (hb.cell (p := ⟨g, 1, none⟩) h.2.2).trans h.2.1, Nat.lt_of_lt_of_le h.2.2 hb.size⟩
theorem BoxD.new (w : World) (u v : Value) (t : TypeId) : BoxD (w.alloc (.cells #[u, v] t)) w.heap.size u v := ⟨by simp, by simp, by simp⟩
theorem results_cellD {fn : Func} {p : Tmp} {ty : TypeId} (h : fn.results = #[.cell p ty]) (tmps : Array Value) (P : Program) (w : World) :
    (results fn tmps).run P w = ((asAddr (tmps.getD p undef)).run P w).andThen fun a w₁ => (loadVar ty a).run P w₁ := by
  simp only [results, h]
  simp [Sem.run_bind, Result.andThen]
theorem heapD (w : World) (o : Obj) : (w.alloc o).heap[w.heap.size]? = some o := by show (w.heap.push o)[w.heap.size]? = some o; simp
theorem heapE (w : World) (o : Obj) (g : Nat) (h : g = w.heap.size) : (w.alloc o).heap[g]? = some o := by subst h; exact heapD w o
theorem heapO (w : World) (o : Obj) (g : Nat) (h : g < w.heap.size) : (w.alloc o).heap[g]? = w.heap[g]? := ((Below.refl w.heap.size w).alloc (Nat.le_refl _) o).block g h
theorem OwnR.keptD {w w' : World} {B : Nat} {v : Value} {rs : List (Int × Int)} {row : Option Nat} (h : OwnR w B v rs) (hg : w.grownBy w' row) (hB : v.ownBlock = none ∨ v.ownBlock ≠ row) : OwnR w' B v rs := World.ownsRow.kept h hg hB
theorem OwnR.setD {w : World} {B : Nat} {v : Value} {rs : List (Int × Int)} (h : OwnR w B v rs) {a : Addr} (ha : a.block < B) (u : Value) : OwnR (w.setCell a u) B v rs := ownsRow_setCell_below h ha u
section
variable {H : Type} {enc : TypeId × Value → H} {W : World} {base : Nat} {spare : Nat → Bool} {held : Bool} {r : Reach} {b0 : Nat}
theorem open_desk {v : Value} {d : DataW H} {p : List MemPlace} (hval : Value.okWide Try.prog W r b0 31 v) (h : DataW.Trod enc Try.prog W base spare held 31 v d p) :
    ∃ A n c rs q, v = .agg #[.slice A n c, .int .i64 q] ∧ n = rs.length ∧ n ≤ 9223372036854775807 ∧ Rl W A rs := by
  obtain ⟨v0, v1, y0, y1, mm, rfl, rfl, rfl, hy0, hy1⟩ := Go.Joins.open_agg2 Try.underlying31 (by kernel_rfl) (by kernel_rfl) hval h
  obtain ⟨q, e1, _, _⟩ := DataW.trod_int Try.underlying3 hy1
  simp at e1
  subst e1
  obtain ⟨a0, len, cap, e0⟩ := Go.Joins.slice_form Try.underlying29 hy0
  simp only [List.cons.injEq, and_true] at e0
  subst e0
  have hf := hy0
  rcases open_slice_pairs Try.underlying29 Try.underlying176 (by kernel_rfl) rfl rfl (by kernel_rfl) (by kernel_rfl) hf with ⟨hcs, _⟩ | ⟨a, l, c, m, n, V0, V1, D0, D1, P0, P1, hcs, _, hl, hm, hmm, _, hx⟩
  · simp at hcs
    obtain ⟨rfl, rfl, rfl⟩ := hcs
    exact ⟨none, 0, 0, [], q, rfl, rfl, by omega, fun h => by simp at h⟩
  · simp at hcs
    obtain ⟨rfl, rfl, rfl⟩ := hcs
    have hlm : len ≤ m := by rw [hmm]; split <;> omega
    have hm' : len ≤ 9223372036854775807 := by unfold maxLen at hm; omega
    have key : ∀ i, i < m → ∃ e q : Int, V0 i = .int .i64 e ∧ V1 i = .int .i64 q := by
      intro i hi
      obtain ⟨_, _, t0, t1⟩ := hx i hi
      obtain ⟨e, e0, _, _⟩ := DataW.trod_int Try.underlying3 t0
      obtain ⟨q, e1, _, _⟩ := DataW.trod_int Try.underlying3 t1
      exact ⟨e, q, by simpa using e0, by simpa using e1⟩
    let f : Nat → Int × Int := fun i => ((match V0 i with | .int _ q => q | _ => 0), (match V1 i with | .int _ q => q | _ => 0))
    refine ⟨some a, len, cap, (List.range len).map f, q, rfl, by simp, hm', fun hp => ?_⟩
    have hlen : 0 < len := by simpa using hp
    obtain ⟨c0, _, _, _⟩ := hx 0 (by omega)
    obtain ⟨b, off, rfl⟩ := addr_plain (by simpa using c0)
    refine ⟨b, off, rfl, World.block_lt_of_cell? W _ (by simpa [add_plain] using c0), fun k hk => ?_⟩
    have hk' : k < len := by simpa using hk
    obtain ⟨e, q, h0, h1⟩ := key k (by omega)
    obtain ⟨g0, g1, _, _⟩ := hx k (by omega)
    rw [add_plain] at g0 g1
    have hf1 : evL ((List.range len).map f) k = e := by simp [evL, hk', f, h0]
    have hf2 : reL ((List.range len).map f) k = q := by simp [reL, hk', f, h1]
    rw [hf1, hf2]
    exact ⟨by rw [g0, h0], by rw [← Nat.add_assoc] at g1; rw [g1, h1]⟩
end
set_option maxHeartbeats 400000 in
theorem toDesk_c (A : Option Addr) (n c : Nat) (rs : List (Int × Int)) (q : Int) (w : World) (hA : Rl w A rs) (hm : n = rs.length) (hn : n ≤ 1048576) :
    Calls Try.prog 25 #[.agg #[.slice A n c, .int .i64 q]] w fun en w' => (∃ A' c', en = .returned (.agg #[.slice A' n c', .int .i64 q]) ∧ OwnR w' w.heap.size (.slice A' n c') rs) ∧ Below w.heap.size w w' := by
  have Hm := Lib.hid hm
  clear hm
  go_enter Try.func25, Try.ntmps25
  go_wp2_with fail
  refine (toRuleS_c A c n rs _ (hA.below ((((Below.refl _ _).alloc (Nat.le_refl _) _).alloc (by simp) _).alloc (by simp; omega) _)) Hm.out hn).mono ?_
  rintro e w1 ⟨rfl, o1, b1⟩
  have hs1 := b1.size
  simp only [World.size_alloc] at hs1 b1 o1
  have Hx := Lib.hid ((b1.block w.heap.size (by omega)).trans ((heapO _ _ _ (by simp <;> omega)).trans ((heapO _ _ _ (by simp)).trans (heapD w _))))
  have Hy := Lib.hid ((b1.block (w.heap.size + 1) (by omega)).trans ((heapO _ _ _ (by simp)).trans (heapE _ _ _ (by simp))))
  have Hz := Lib.hid ((b1.block (w.heap.size + 1 + 1) (by omega)).trans (heapE _ _ _ (by simp)))
  have hx0 := cell_of_row w1 w.heap.size 0 _ _ _ Hx.out
  have hx1 := cell_of_row w1 w.heap.size 1 _ _ _ Hx.out
  have hy0 := cell_of_row w1 (w.heap.size + 1) 0 _ _ _ Hy.out
  have hy1 := cell_of_row w1 (w.heap.size + 1) 1 _ _ _ Hy.out
  have hz0 := cell_of_row w1 (w.heap.size + 1 + 1) 0 _ _ _ Hz.out
  have hz1 := cell_of_row w1 (w.heap.size + 1 + 1) 1 _ _ _ Hz.out
  have hfy := fun k => frozen_of_row w1 (w.heap.size + 1) k _ _ Hy.out
  have hfz := fun k => frozen_of_row w1 (w.heap.size + 1 + 1) k _ _ Hz.out
  have B9 := (((((Below.refl _ w).alloc (Nat.le_refl _) (.cells #[.slice A n c, .int .i64 q] 31)).alloc (by simp) (.cells #[.slice none 0 0, .int .i64 0] 24)).alloc (by simp; omega) (.cells #[.slice none 0 0, .int .i64 0] 24)).trans (b1.mono (by omega)))
  have Ho := Lib.hid o1
  clear o1 b1
  go_wp2
  refine bodyPost_ret (v := .agg #[.slice (some ⟨w.heap.size + 1 + 1 + 1, 0, none⟩) n n, .int .i64 q]) (by rw [results_cellD rfl]; go_simp) rfl ⟨⟨_, _, rfl, ?_⟩, ?_⟩
  · exact OwnR.mono (((((Ho.out.setD (by simp) _).setD (by simp) _).setD (by simp) _).setD (by simp) _)) (by omega)
  · exact ((((B9.setCell (show w.heap.size ≤ w.heap.size + 1 + 1 by omega) _).setCell (show w.heap.size ≤ w.heap.size + 1 + 1 by omega) _).setCell (show w.heap.size ≤ w.heap.size + 1 by omega) _).setCell (show w.heap.size ≤ w.heap.size + 1 by omega) _)
def dkR : List (Int × Int) := [(2, 0), (3, 0)]
set_option maxHeartbeats 400000 in
theorem spec_FirstDesk_c (w : World) :
    Calls Try.prog 18 #[] w fun en w' => (∃ A c, en = .returned (.agg #[.slice A 2 c, .int .i64 30]) ∧ OwnR w' w.heap.size (.slice A 2 c) dkR) ∧ Below w.heap.size w w' := by
  have hp : ruL (pr9.take 2) = dkR := by decide
  have C := Lib.hid (fun W => prRules_c W 2 (by omega))
  rw [hp] at C
  clear hp
  go_enter Try.func18, Try.ntmps18
  go_wp2_with fail
  refine (C.out _).mono ?_
  rintro e w1 ⟨⟨v, rfl, o1⟩, b1⟩
  obtain ⟨A, c, rfl⟩ : ∃ A c, v = .slice A 2 c := OwnR.shape o1
  have hs1 := b1.size
  simp only [World.size_alloc] at hs1 b1 o1
  have Hx := Lib.hid ((b1.block w.heap.size (by omega)).trans (heapD w _))
  have hx0 := cell_of_row w1 w.heap.size 0 _ _ _ Hx.out
  have hx1 := cell_of_row w1 w.heap.size 1 _ _ _ Hx.out
  have hf := fun k => frozen_of_row w1 w.heap.size k _ _ Hx.out
  have B9 := ((Below.refl _ w).alloc (Nat.le_refl _) (.cells #[.slice none 0 0, .int .i64 0] 24)).trans (b1.mono (by omega))
  have Ho := Lib.hid o1
  clear o1 b1
  go_wp2
  refine bodyPost_ret (v := .agg #[.slice A 2 c, .int .i64 30]) (by rw [results_cellD rfl]; go_simp) rfl ⟨⟨_, _, rfl, ?_⟩, ?_⟩
  · exact OwnR.mono ((Ho.out.setD (by simp) _).setD (by simp) _) (by omega)
  · exact (B9.setCell (Nat.le_refl _) _).setCell (Nat.le_refl _) _
set_option maxHeartbeats 400000 in
theorem impl_FirstDesk_c (w : World) :
    Calls Try.prog 19 #[] w fun en w' => (∃ A c, en = .returned (.agg #[.slice A 2 c, .int .i64 30]) ∧ OwnR w' w.heap.size (.slice A 2 c) dkR) ∧ Below w.heap.size w w' := by
  go_enter Try.func19, Try.ntmps19
  go_wp2
  have o0 := (World.ownsRow_lit (w.alloc (.cells #[.slice (some ⟨w.heap.size + 1, 0, none⟩) 2 2, .int .i64 30] 24)) #[.int .i64 2, .int .i64 0, .int .i64 3, .int .i64 0] 2 (Nat.le_refl _) (by unfold maxLen; omega) rfl :
    ((w.alloc (.cells #[.slice (some ⟨w.heap.size + 1, 0, none⟩) 2 2, .int .i64 30] 24)).alloc (.cells #[.int .i64 2, .int .i64 0, .int .i64 3, .int .i64 0] 69)).ownsRow (w.alloc (.cells #[.slice (some ⟨w.heap.size + 1, 0, none⟩) 2 2, .int .i64 30] 24)).heap.size 69 2 _ 2 _)
  rw [World.size_alloc] at o0
  have o1 : OwnR ((w.alloc (.cells #[.slice (some ⟨w.heap.size + 1, 0, none⟩) 2 2, .int .i64 30] 24)).alloc (.cells #[.int .i64 2, .int .i64 0, .int .i64 3, .int .i64 0] 69)) (w.heap.size + 1) (.slice (some ⟨w.heap.size + 1, 0, none⟩) 2 2) dkR := o0
  refine bodyPost_ret (v := .agg #[.slice (some ⟨w.heap.size + 1, 0, none⟩) 2 2, .int .i64 30]) (by rw [results_cellD rfl]; go_simp) rfl ⟨⟨_, _, rfl, ?_⟩, ?_⟩
  · exact OwnR.mono o1 (by omega)
  · exact ((Below.refl _ _).alloc (Nat.le_refl _) _).alloc (by simp) _
set_option maxHeartbeats 400000 in
theorem eqDesk_yes (A B : Option Addr) (n c d : Nat) (rs : List (Int × Int)) (q : Int) (w : World) (hA : Rl w A rs) (hB : Rl w B rs) (hn : n = rs.length) (hn1 : n ≤ 1048576) :
    Calls Try.prog 20 #[.agg #[.slice A n c, .int .i64 q], .agg #[.slice B n d, .int .i64 q]] w fun en w' => en = .returned (.bool true) ∧ Below w.heap.size w w' := by
  have Hn := Lib.hid hn
  clear hn
  have B0 : Below w.heap.size w ((w.alloc (.cells #[.slice A n c, .int .i64 q] 24)).alloc (.cells #[.slice B n d, .int .i64 q] 24)) := ((Below.refl _ w).alloc (Nat.le_refl _) _).alloc (by simp) _
  go_enter Try.func20, Try.ntmps20
  go_wp2_with fail
  refine (eqRuleS_yes A B n n c d rs _ (hA.below B0) (hB.below B0) Hn.out Hn.out hn1 hn1).mono ?_
  rintro e w1 ⟨rfl, b1⟩
  have hs1 := b1.size
  simp only [World.size_alloc] at hs1 b1
  have Hx := Lib.hid ((b1.block w.heap.size (by omega)).trans ((heapO _ _ _ (by simp)).trans (heapD w _)))
  have Hy := Lib.hid ((b1.block (w.heap.size + 1) (by omega)).trans (heapE _ _ _ (by simp)))
  have hx1 := cell_of_row w1 w.heap.size 1 _ _ _ Hx.out
  have hy1 := cell_of_row w1 (w.heap.size + 1) 1 _ _ _ Hy.out
  have B9 := B0.trans (b1.mono (by omega))
  go_wp2
  go_ret
  exact ⟨rfl, B9⟩
set_option maxHeartbeats 400000 in
theorem markDesk_c (A : Option Addr) (B n c : Nat) (xs : List Value) (q : Int) (w : World) (h0 : w.ownsRow B 69 2 (.slice A n c) n xs) (hn1 : n ≤ 1048576) :
    Calls Try.prog 21 #[.agg #[.slice A n c, .int .i64 q], .int .i64 1] w fun en w' => en = .returned (.int .i64 (1 + 2 * (n : Int))) ∧ Marked w' B 69 2 (.slice A n c) n ∧ w.grownBy w' (Value.ownBlock (.slice A n c)) := by
  go_enter Try.func21, Try.ntmps21
  go_wp2_with fail
  refine (markRuleS_c A B n c xs _ (World.ownsRow.alloc h0 _) hn1).mono ?_
  rintro e w1 ⟨rfl, m1, g1⟩
  go_wp2
  go_ret
  exact ⟨rfl, m1, grown_trans (World.grownBy_alloc w _ _) g1⟩
set_option maxHeartbeats 400000 in
theorem heldDesk_c (A : Option Addr) (B n c : Nat) (q : Int) (w : World) (h0 : Marked w B 69 2 (.slice A n c) n) (hn1 : n ≤ 1048576) :
    Calls Try.prog 22 #[.agg #[.slice A n c, .int .i64 q], .int .i64 1] w fun en w' => en = .returned (.int .i64 (1 + 2 * (n : Int))) ∧ Below w.heap.size w w' := by
  have B0 : Below w.heap.size w (w.alloc (.cells #[.slice A n c, .int .i64 q] 24)) := (Below.refl _ w).alloc (Nat.le_refl _) _
  have hpos : ¬ (1 + 2 * (n : Int) < 0) := by omega
  go_enter Try.func22, Try.ntmps22
  go_wp2_with fail
  refine (heldRuleS_c A B n c _ (h0.below B0) hn1).mono ?_
  rintro e w1 ⟨rfl, rfl⟩
  go_wp2
  go_ret
  exact ⟨rfl, B0⟩
def dkB (rs : List (Int × Int)) (q : Int) : Bool := goodL rs && mostB q
set_option maxHeartbeats 800000 in
theorem impl_IsDesk_c (A : Option Addr) (n c : Nat) (rs : List (Int × Int)) (q : Int) (w : World) (hA : Rl w A rs) (hm : n = rs.length) (hn : n ≤ 1048576) :
    Calls Try.prog 26 #[.agg #[.slice A n c, .int .i64 q]] w fun en w' => en = .returned (.bool (dkB rs q)) ∧ Below w.heap.size w w' := by
  have B0 : Below w.heap.size w (w.alloc (.cells #[.slice A n c, .int .i64 q] 24)) := (Below.refl _ w).alloc (Nat.le_refl _) _
  have C := Lib.hid (fun W (hW : Rl W A rs) => implAreRules_c A n c rs W hW hm hn)
  clear hm
  cases hg : goodL rs with
  | false =>
    rw [hg] at C
    have hd : dkB rs q = false := by rw [dkB, hg]; rfl
    rw [hd]
    clear hd
    go_enter Try.func26, Try.ntmps26
    go_wp2_with fail
    refine (C.out _ (hA.below B0)).mono ?_
    rintro e w1 ⟨rfl, b1⟩
    have B9 := B0.trans (b1.mono B0.size)
    go_wp2
    go_ret
    exact ⟨rfl, B9⟩
  | true =>
    rw [hg] at C
    have hd : dkB rs q = mostB q := by rw [dkB, hg]; rfl
    rw [hd]
    clear hd
    go_enter Try.func26, Try.ntmps26
    go_wp2_with fail
    refine (C.out _ (hA.below B0)).mono ?_
    rintro e w1 ⟨rfl, b1⟩
    have hs1 := b1.size
    simp only [World.size_alloc] at hs1 b1
    have Hx := Lib.hid ((b1.block w.heap.size (by omega)).trans (heapD w _))
    have hx1 := cell_of_row w1 w.heap.size 1 _ _ _ Hx.out
    have B9 := B0.trans (b1.mono (by omega))
    go_wp2_with fail
    refine (isMost_c q _).mono ?_
    rintro e w2 ⟨rfl, rfl⟩
    go_wp2
    go_ret
    exact ⟨rfl, B9⟩

theorem coMost_c (q : Int) (w : World) : Calls Try.prog 294 #[.int .i64 q] w fun en w' => en = .returned (.bool (mostB q)) ∧ w = w' := by
  go_enter Try.func294, Try.ntmps294
  go_wp2_with fail
  refine (l1In_c _ _ _ _).mono ?_
  rintro e w1 ⟨rfl, rfl⟩
  go_wp2
  go_ret
  exact ⟨rfl, rfl⟩
set_option maxHeartbeats 800000 in
theorem coGood_c (A : Option Addr) (n c : Nat) (rs : List (Int × Int)) (q : Int) (w : World) (hA : Rl w A rs) (hm : n = rs.length) (hn : n ≤ 1048576) :
    Calls Try.prog 177 #[.agg #[.slice A n c, .int .i64 q]] w fun en w' => en = .returned (.bool (dkB rs q)) ∧ Below w.heap.size w w' := by
  have B0 : Below w.heap.size w (w.alloc (.cells #[.slice A n c, .int .i64 q] 24)) := (Below.refl _ w).alloc (Nat.le_refl _) _
  have C := Lib.hid (fun W (hW : Rl W A rs) => good_c A n c rs W hW hm hn)
  clear hm
  cases hg : goodL rs with
  | false =>
    rw [hg] at C
    have hd : dkB rs q = false := by rw [dkB, hg]; rfl
    rw [hd]
    clear hd
    go_enter Try.func177, Try.ntmps177
    go_wp2_with fail
    refine (C.out _ (hA.below B0)).mono ?_
    rintro e w1 ⟨rfl, b1⟩
    have B9 := B0.trans (b1.mono B0.size)
    go_wp2
    go_ret
    exact ⟨rfl, B9⟩
  | true =>
    rw [hg] at C
    have hd : dkB rs q = mostB q := by rw [dkB, hg]; rfl
    rw [hd]
    clear hd
    go_enter Try.func177, Try.ntmps177
    go_wp2_with fail
    refine (C.out _ (hA.below B0)).mono ?_
    rintro e w1 ⟨rfl, b1⟩
    have hs1 := b1.size
    simp only [World.size_alloc] at hs1 b1
    have Hx := Lib.hid ((b1.block w.heap.size (by omega)).trans (heapD w _))
    have hx1 := cell_of_row w1 w.heap.size 1 _ _ _ Hx.out
    have B9 := B0.trans (b1.mono (by omega))
    go_wp2_with fail
    refine (coMost_c q _).mono ?_
    rintro e w2 ⟨rfl, rfl⟩
    go_wp2
    go_ret
    exact ⟨rfl, B9⟩

theorem spec_IsDesk_c (A : Option Addr) (n c : Nat) (rs : List (Int × Int)) (q : Int) (w : World) (hA : Rl w A rs) (hm : n = rs.length) (hn : n ≤ 1048576) :
    Calls Try.prog 24 #[.agg #[.slice A n c, .int .i64 q]] w fun en w' => en = .returned (.bool (dkB rs q)) ∧ Below w.heap.size w w' := by
  have B0 : Below w.heap.size w (w.alloc (.cells #[.slice A n c, .int .i64 q] 24)) := (Below.refl _ w).alloc (Nat.le_refl _) _
  have C := Lib.hid (fun W (hW : Rl W A rs) => coGood_c A n c rs q W hW hm hn)
  clear hm
  go_enter Try.func24, Try.ntmps24
  go_wp2_with fail
  refine (C.out _ (hA.below B0)).mono ?_
  rintro e w1 ⟨rfl, b1⟩
  have B9 := B0.trans (b1.mono B0.size)
  go_wp2
  go_ret
  exact ⟨rfl, B9⟩
set_option maxHeartbeats 400000 in
theorem szDesk_yes (A : Option Addr) (n c : Nat) (q : Int) (w : World) (hn : n ≤ 1048576) :
    Calls Try.prog 23 #[.agg #[.slice A n c, .int .i64 q], .int .i64 1048576] w fun en w' => en = .returned (.int .i64 (1048576 - (n : Int))) ∧ Below w.heap.size w w' := by
  have B0 : Below w.heap.size w (w.alloc (.cells #[.slice A n c, .int .i64 q] 31)) := (Below.refl _ w).alloc (Nat.le_refl _) _
  have hz : ¬ (1048576 - (n : Int) < 0) := by omega
  go_enter Try.func23, Try.ntmps23
  go_wp2_with fail
  refine (szR_yes A n c _ hn).mono ?_
  rintro e w1 ⟨rfl, rfl⟩
  go_wp2
  go_ret
  exact ⟨rfl, B0⟩
set_option maxHeartbeats 400000 in
theorem szDesk_no (A : Option Addr) (n c : Nat) (q : Int) (w : World) (hn : n ≤ 9223372036854775807) (h1 : ¬ n ≤ 1048576) :
    Calls Try.prog 23 #[.agg #[.slice A n c, .int .i64 q], .int .i64 1048576] w fun en w' => en = .returned (.int .i64 (-1)) ∧ Below w.heap.size w w' := by
  have B0 : Below w.heap.size w (w.alloc (.cells #[.slice A n c, .int .i64 q] 31)) := (Below.refl _ w).alloc (Nat.le_refl _) _
  go_enter Try.func23, Try.ntmps23
  go_wp2_with fail
  refine (szR_no A n c _ hn h1).mono ?_
  rintro e w1 ⟨rfl, rfl⟩
  go_wp2
  go_ret
  exact ⟨rfl, B0⟩

end Go.Proofs.Ytaapfapejekkfaa
