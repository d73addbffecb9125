import Derived.Test.YtoapidcbmlnjcaaI4
import Derived.Test.YtoapidcbmlnjcaaQ1
namespace Go.Proofs.Ytoapidcbmlnjcaa
open Go.RowKit
set_option linter.unusedVariables false
set_option linter.unusedSimpArgs false

/-- append(out, y) in a world that has drawn since the literal was laid. -/
theorem wp_app_intD {ops : Array Oper} {rest : List Oper} {o : Oper} {a : Act} {Q : Exit → Act → World → Prop} (w : World) (hgd : o.guard = none) (s x : Operand)
    (ho : o.op = .call { callee := .builtin .append, args := #[s, x], argTypes := #[30, 30] }) (B : Nat) (v : Value) (xs : List Int) (hs : a.eval s = v) (hown : OwnI w B v xs) (y : Int)
    (hx : a.eval x = .slice (some ⟨w.heap.size, 0, none⟩) 1 1) (hl : xs.length ≤ 1048576) (hB : B ≤ w.heap.size)
    (h : ∀ v' w', OwnI w' B v' (xs ++ [y]) → Below B w w' → wpList Try.prog ops Q rest (a.put o.dst v') w') : wpList Try.prog ops Q (o :: rest) a ((w.alloc (.cells #[.int .i64 y] 3)).drew) := by
  have e : (w.alloc (.cells #[.int .i64 y] 3)).drew = w.drew.alloc (.cells #[.int .i64 y] 3) := rfl
  rw [e]
  exact wp_app_int w.drew hgd s x ho B v xs hs (World.ownsRow.drew hown) y hx hl hB fun v' w' h1 h2 => h v' w' h1 ((Below.refl B w).drew.trans h2)

/-- A row of bools: what f tells of the numbers 0, .., P - 1. -/
def BoolsAt (w : World) (v : Value) (P : Nat) (f : Nat → Bool) : Prop := ∃ g c, v = .slice (some ⟨g, 0, none⟩) P c ∧ g < w.heap.size ∧ ∀ j, j < P → w.cell? ⟨g, j, none⟩ = some (.bool (f j))
theorem BoolsAt.below {w w' : World} {v : Value} {P : Nat} {f : Nat → Bool} (h : BoolsAt w v P f) (hb : Below w.heap.size w w') : BoolsAt w' v P f := by
  obtain ⟨g, c, e, hg, hc⟩ := h
  exact ⟨g, c, e, Nat.lt_of_lt_of_le hg hb.size, fun j hj => (hb.cell (p := ⟨g, j, none⟩) hg).trans (hc j hj)⟩
/-- The panic of a period with no number that is sought. -/
def empP : List PanicEntry := [{ v := .iface 104 (.agg #[]), recovered := false }]
theorem fl0_yes {p : Nat → Bool} {k : Nat} (h : p k = true) : flF p 0 (k + 1) = flF p 0 k ++ [(k : Int)] := by
  have := flF_yes (p := p) (a := 0) (k := k) (by rw [Nat.zero_add]; exact h)
  rwa [Nat.zero_add] at this
theorem fl0_no {p : Nat → Bool} {k : Nat} (h : p k = false) : flF p 0 (k + 1) = flF p 0 k := flF_no (p := p) (a := 0) (k := k) (by rw [Nat.zero_add]; exact h)
theorem fl0_nl (p : Nat → Bool) (P : Nat) : (flF p 0 P).length = (nlF p P).length := by rw [flF_nl, List.length_map]
set_option maxRecDepth 100000 in
set_option maxHeartbeats 1600000 in
theorem numbersThat_c (w : World) (vb : Value) (Al : Option Addr) (nl cl : Nat) (P : Nat) (f : Nat → Bool) (hP1 : 1 ≤ P) (hP : P ≤ 100000) (hB : BoolsAt w vb P f) (b : Bool) :
    Calls Try.prog 112 #[.agg #[vb, .slice Al nl cl], .bool b] w fun en w' =>
      ((nlF (fun n => f n == b) P).length = 0 ∧ en = .panicked empP ∨ 0 < (nlF (fun n => f n == b) P).length ∧ ∃ v, en = .returned v ∧ OwnI w' w.heap.size v (cyL (fun n => f n == b) P)) ∧ Below w.heap.size w w' := by
  obtain ⟨g, c, rfl, hg, hc⟩ := hB
  have Hc := Lib.hid hc
  obtain ⟨p, hp⟩ : ∃ p : Nat → Bool, (fun n => f n == b) = p := ⟨_, rfl⟩
  have Hpf : Hid (∀ n, (f n == b) = p n) := fun n => by rw [← hp]
  rw [hp]
  have Hy := Lib.hid (fun k => @fl0_yes p k)
  have Hn := Lib.hid (fun k => @fl0_no p k)
  have Hnl := Lib.hid (fl0_nl p P)
  have Hfl := Lib.hid (fun k => flF_len p 0 k)
  have HC : Hid (cyL p P = flF p 0 P ++ [(P : Int) + ivL (flF p 0 P) 0]) := rfl
  have Hpos := Lib.hid (fun i (hi : i < (nlF p P).length) => (nl_at (p := p) (P := P) hi).1)
  have Hat := Lib.hid (show ∀ k, k < (nlF p P).length → ivL (flF p 0 P) k = ((nlF p P).getD k 0 : Int) from fun k hk => by
    rw [flF_nl, ivL, List.getD_eq_getElem?_getD, List.getElem?_map, List.getElem?_eq_getElem hk, List.getD_eq_getElem?_getD, List.getElem?_eq_getElem hk]; rfl)
  clear hc hp
  obtain ⟨w1, hw1⟩ : ∃ w1, w.alloc (.cells #[.slice (some ⟨g, 0, none⟩) P c, .slice Al nl cl] 75) = w1 := ⟨_, rfl⟩
  have b1 : Below w.heap.size w w1 := by rw [← hw1]; exact (Below.refl _ _).alloc (Nat.le_refl _) _
  have hs1 : w1.heap.size = w.heap.size + 1 := by rw [← hw1]; simp
  have hc0 : w1.cell? ⟨w.heap.size, 0, none⟩ = some (.slice (some ⟨g, 0, none⟩) P c) := by rw [← hw1]; exact cell_of_row _ _ 0 _ _ _ (heap_alloc_new w _)
  have Hc0 := Lib.hid hc0
  have Hw1 := Lib.hid hw1
  clear hw1
  go_enter Try.func112, Try.ntmps112
  go_wp2_with fail
  rw [Hw1.out]
  go_loopw [5, 6, 7, 11] (fun v _ _ i wr => ∃ k : Nat, k ≤ P ∧ i = .int .i64 (k : Int) ∧ OwnI wr w1.heap.size v (flF p 0 k) ∧ Below w1.heap.size w1 wr) (fun _ _ _ i _ => P - (intOf i).toNat)
  case atStart => exact ⟨0, Nat.zero_le _, rfl, OwnI.nil _ _, Below.refl _ _⟩
  case round =>
    obtain ⟨k, hk, rfl, hown, hbel⟩ := hrel
    have hs := hbel.size
    have hkl := Hfl.out k
    have Hown := Lib.hid hown
    by_cases hlt : k < P
    · have hck := ((b1.trans (hbel.mono (by omega))).cell (p := ⟨g, k, none⟩) hg).trans (Hc.out k hlt)
      have hki : (k : Int) < (P : Int) := by omega
      have hpf := Hpf.out k
      have hy := Hy.out k
      have hn := Hn.out k
      obtain ⟨q, hq⟩ : ∃ q, f k = q := ⟨_, rfl⟩
      obtain ⟨L, hL⟩ : ∃ L, flF p 0 k = L := ⟨_, rfl⟩
      rw [hq] at hck hpf
      rw [hL] at hkl hy hn Hown
      have HL := Lib.hid hL
      have Hkl := Lib.hid hkl
      clear hq hL hown hkl
      cases hpk : p k with
      | true =>
        have hqb : (q == b) = true := by rw [hpf, hpk]
        have HY := Lib.hid (hy hpk)
        clear hy hn hpf hpk
        go_wp2_with (at_builtin; refine wp_app_int _ rfl _ _ rfl w1.heap.size _ _ rfl Hown.out _ rfl (by have := Hkl.out; omega) hs ?_; intro v' w6 hown6 b6)
        go_roundw
        case rel => exact ⟨k + 1, by omega, by go_num, by rw [HY.out]; exact hown6, hbel.trans b6⟩
        case measure => simp [intOf]; omega
      | false =>
        have hqb : (q == b) = false := by rw [hpf, hpk]
        have HY := Lib.hid (hn hpk)
        clear hy hn hpf hpk
        go_wp2
        go_roundw
        case rel => exact ⟨k + 1, by omega, by go_num, by rw [HY.out]; exact Hown.out, hbel⟩
        case measure => simp [intOf]; omega
    · have hkP : k = P := by omega
      subst hkP
      have hki : (k : Int) ≤ (k : Int) := Int.le_refl _
      have hcb := (hbel.cell (p := ⟨w.heap.size, 0, none⟩) (by show w.heap.size < _; omega)).trans Hc0.out
      obtain ⟨A, cA, rfl, hcells⟩ := own_row hown
      obtain ⟨N, hN⟩ : ∃ N, (nlF p k).length = N := ⟨_, rfl⟩
      have hfn : (flF p 0 k).length = N := Hnl.out.trans hN
      rw [hfn] at hcells hkl ⊢
      have HN := Lib.hid hN
      have Hcells := Lib.hid hcells
      have Hfn := Lib.hid hfn
      clear hown hN hcells
      by_cases hz : N = 0
      · subst hz
        go_wp2
        refine ⟨rfl, .inl ⟨HN.out, rfl⟩, b1.trans (hbel.mono (by omega))⟩
      · have hNp : 0 < N := by omega
        obtain ⟨g2, rfl, hg21, hg22, hc2⟩ := Hcells.out hNp
        have hx0 := hc2 0 hNp
        have ha0 := Hat.out 0 (by rw [HN.out]; exact hNp)
        have hp0 := Hpos.out 0 (by rw [HN.out]; exact hNp)
        have HCy := HC.out
        rw [ha0] at hx0 HCy
        obtain ⟨X, hX⟩ : ∃ X : Nat, (nlF p k).getD 0 0 = X := ⟨_, rfl⟩
        rw [hX] at hx0 hp0 HCy
        have Hcy := Lib.hid HCy
        have hw1 : IntKind.i64.wrap ((k : Int) + (X : Int)) = (k : Int) + (X : Int) := IntWalk.i64_in _ (by omega)
        have hn0 : (0 : Int) < (N : Int) := by omega
        have hNz : ¬ (N : Int) = 0 := by omega
        have hNb : ((N : Int) == 0) = false := beq_eq_false_iff_ne.2 hNz
        clear hc2 ha0 HCy hX hz
        rw [Hfn.out] at Hown
        have hle := Lib.hid (show (flF p 0 k).length ≤ 1048576 by rw [Hfn.out]; omega)
        go_wp2_with fail
        go_region_law (first | (refine step_app_int wr (by rfl) _ _ (by rfl) w1.heap.size _ _ (by rfl) Hown.out _ (by rfl) hle.out hs ?_; intro v' w6 hown6 hgr) | fail)
        all_goals (
          go_wp2
          go_ret
          exact ⟨.inr ⟨by rw [HN.out]; exact hNp, _, rfl, by rw [Hcy.out]; exact OwnI.mono hown6 (by omega)⟩, b1.trans ((hbel.trans (below_of_grown hgr hs fun q hq => (World.ownsRow.lt Hown.out q hq).1)).mono (by omega))⟩)
theorem numbersThat_yes (w : World) (vb : Value) (Al : Option Addr) (nl cl : Nat) (P : Nat) (f : Nat → Bool) (hP1 : 1 ≤ P) (hP : P ≤ 100000) (hB : BoolsAt w vb P f) (b : Bool) (h : 0 < (nlF (fun n => f n == b) P).length) :
    Calls Try.prog 112 #[.agg #[vb, .slice Al nl cl], .bool b] w fun en w' => (∃ v, en = .returned v ∧ OwnI w' w.heap.size v (cyL (fun n => f n == b) P)) ∧ Below w.heap.size w w' :=
  (numbersThat_c w vb Al nl cl P f hP1 hP hB b).mono fun e w' h2 => ⟨h2.1.resolve_left (fun h3 => by omega) |>.2, h2.2⟩
theorem numbersThat_no (w : World) (vb : Value) (Al : Option Addr) (nl cl : Nat) (P : Nat) (f : Nat → Bool) (hP1 : 1 ≤ P) (hP : P ≤ 100000) (hB : BoolsAt w vb P f) (b : Bool) (h : (nlF (fun n => f n == b) P).length = 0) :
    Calls Try.prog 112 #[.agg #[vb, .slice Al nl cl], .bool b] w fun en w' => en = .panicked empP ∧ Below w.heap.size w w' :=
  (numbersThat_c w vb Al nl cl P f hP1 hP hB b).mono fun e w' h2 => ⟨h2.1.resolve_right (fun h3 => by omega) |>.2, h2.2⟩

end Go.Proofs.Ytoapidcbmlnjcaa
