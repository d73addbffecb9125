import Derived.Test.YtgkciiklgadgkaaI0
import Derived.Test.YtgkciiklgadgkaaP4
import Derived.Test.YtgkciiklgadgkaaKA
import Derived.Test.YtgkciiklgadgkaaKQ
import Derived.Laws.ResultCell
import Derived.Defers
import Derived.Recover
import Derived.Orders
import Derived.Laws.Pointers
import Derived.Test.YtgkciiklgadgkaaSh
import Derived.Lib.Slices
namespace Go.Proofs.Ytgkciiklgadgkaa
open Go.RowKit
set_option linter.unusedVariables false
set_option linter.unusedSimpArgs false

set_option maxRecDepth 100000 in
set_option maxHeartbeats 1600000 in
theorem gapsBetween_c (w : World) (A : Option Addr) (n c : Nat) (xs : List Int) (hA : Il w A xs) (hn : n = xs.length) (hl : n ≤ 300000) (hb : ∀ j, j < n → 0 ≤ ivL xs j ∧ ivL xs j ≤ 300000) :
    Calls Try.prog 70 #[.slice A n c] w fun en w' => (∃ v, en = .returned v ∧ OwnI w' w.heap.size v (dfL xs (n - 1))) ∧ Below w.heap.size w w' := by
  have HA := Lib.hid hA
  have Hn := Lib.hid hn
  have HB := Lib.hid hb
  have HY := Lib.hid (fun k => dfL_succ xs k)
  clear hA hn hb
  go_enter Try.func70, Try.ntmps70
  go_wp2
  go_loopw [3, 4] (fun v i wr => ∃ k K : Nat, K = k + 1 ∧ k ≤ n - 1 ∧ i = .int .i64 (K : Int) ∧ OwnI wr w.heap.size v (dfL xs k) ∧ Below w.heap.size w wr) (fun _ i _ => n + 1 - (intOf i).toNat)
  case atStart => exact ⟨0, 1, rfl, Nat.zero_le _, rfl, OwnI.nil _ _, Below.refl _ _⟩
  case round =>
    obtain ⟨k, K, hK, hk, rfl, hown, hbel⟩ := hrel
    have Hown := Lib.hid hown
    clear hown
    have hs := hbel.size
    have hKp : (K : Int) - 1 = (k : Int) := by omega
    have HK := Lib.hid hK
    by_cases hlt : K < n
    · obtain ⟨g, off, rfl, hg2, hcl⟩ := HA.out (by have := Hn.out; omega)
      have hc1 := (hbel.cell (p := ⟨g, off + K, none⟩) hg2).trans (hcl K (by have := Hn.out; omega))
      have hc0 := (hbel.cell (p := ⟨g, off + k, none⟩) hg2).trans (hcl k (by have := Hn.out; omega))
      have hu1 := HB.out K hlt
      have hu0 := HB.out k (by omega)
      have hy := HY.out k
      rw [← hK] at hy
      obtain ⟨X1, hX1⟩ : ∃ X1, ivL xs K = X1 := ⟨_, rfl⟩
      obtain ⟨X0, hX0⟩ : ∃ X0, ivL xs k = X0 := ⟨_, rfl⟩
      rw [hX1] at hc1 hu1 hy
      rw [hX0] at hc0 hu0 hy
      have Hy := Lib.hid hy
      have Hl := Lib.hid (show (dfL xs k).length ≤ 300000 by rw [dfL_len]; omega)
      have hni : (K : Int) < (n : Int) := by omega
      have hkS : (k : Int) < (n : Int) := by omega
      have hw0 : IntKind.i64.wrap (k : Int) = (k : Int) := IntWalk.i64_in _ (by omega)
      have hw1 : IntKind.i64.wrap (X1 - X0) = X1 - X0 := IntWalk.i64_in _ (by omega)
      clear hX1 hX0 hy hcl hK
      have hne := fun q hq => (World.ownsRow.lt Hown.out q hq).1
      have hb0 : (0 : Int) ≤ (k : Int) := Int.natCast_nonneg k
      have hb1 : (0 : Int) ≤ (K : Int) := Int.natCast_nonneg K
      go_wp2_with fail
      go_region_held3 (fun w' => w'.cell? ⟨g, off + K, none⟩ = some (.int .i64 X1) ∧ w'.cell? ⟨g, off + k, none⟩ = some (.int .i64 X0))
        (go_keep)
        (first | (refine step_app_int wr (by rfl) _ _ (by rfl) w.heap.size _ _ (by rfl) Hown.out (X1 - X0) (by rfl) (by have := Hl.out; omega) hs ?_; intro v' w6 hown6 hgr; have hq0 := hgr.cell hc1 (fun e => by have := hne _ e.symm; simp at this; omega); have hq1 := hgr.cell hc0 (fun e => by have := hne _ e.symm; simp at this; omega)))
      clear hw0 hw1
      go_wp2
      go_roundw
      case rel => exact ⟨K, K + 1, rfl, by omega, by go_num, by rw [Hy.out]; exact hown6, hbel.trans (below_of_grown hgr hs fun q hq => (World.ownsRow.lt Hown.out q hq).1)⟩
      case measure => simp [intOf]; omega
    · have Hk := Lib.hid (show k = n - 1 by omega)
      have hni : (n : Int) ≤ (K : Int) := by omega
      clear hK
      go_wp2
      go_ret
      exact ⟨⟨_, rfl, by rw [← Hk.out]; exact Hown.out⟩, hbel⟩

end Go.Proofs.Ytgkciiklgadgkaa

namespace Go.Proofs.Ytgkciiklgadgkaa
open Go.RowKit
set_option linter.unusedVariables false
set_option linter.unusedSimpArgs false

/-! Rows of gaps, each with the number behind which it is. -/
theorem own_row {w : World} {B : Nat} {v : Value} {xs : List Int} (h : OwnI w B v xs) : ∃ A c, v = .slice A xs.length c ∧ (0 < xs.length → ∃ g, A = some ⟨g, 0, none⟩ ∧ B ≤ g ∧ g < w.heap.size ∧ ∀ j, j < xs.length → w.cell? ⟨g, j, none⟩ = some (.int .i64 (ivL xs j))) := by
  rcases own_forms h with ⟨e, h0⟩ | ⟨g, c, e, hB, hg, _⟩
  · exact ⟨none, 0, by rw [e, h0]; rfl, fun hp => by rw [h0] at hp; simp at hp⟩
  · subst e
    exact ⟨_, c, rfl, fun _ => ⟨g, rfl, hB, hg, fun j hj => (World.ownsRow.cellAt h j (by omega)).trans (ivL_get xs j hj)⟩⟩

end Go.Proofs.Ytgkciiklgadgkaa

namespace Go.Proofs.Ytgkciiklgadgkaa
open Go.RowKit
set_option linter.unusedVariables false
set_option linter.unusedSimpArgs false

/-- append(out, y) in a world that has drawn since the literal was laid. -/
theorem wp_app_intD {ops : Array Oper} {rest : List Oper} {o : Oper} {a : Act} {Q : Exit → Act → World → Prop} (w : World) (hgd : o.guard = none) (s x : Operand)
    (ho : o.op = .call { callee := .builtin .append, args := #[s, x], argTypes := #[24, 24] }) (B : Nat) (v : Value) (xs : List Int) (hs : a.eval s = v) (hown : OwnI w B v xs) (y : Int)
    (hx : a.eval x = .slice (some ⟨w.heap.size, 0, none⟩) 1 1) (hl : xs.length ≤ 1048576) (hB : B ≤ w.heap.size)
    (h : ∀ v' w', OwnI w' B v' (xs ++ [y]) → Below B w w' → wpList Try.prog ops Q rest (a.put o.dst v') w') : wpList Try.prog ops Q (o :: rest) a ((w.alloc (.cells #[.int .i64 y] 3)).drew) := by
  have e : (w.alloc (.cells #[.int .i64 y] 3)).drew = w.drew.alloc (.cells #[.int .i64 y] 3) := rfl
  rw [e]
  exact wp_app_int w.drew hgd s x ho B v xs hs (World.ownsRow.drew hown) y hx hl hB fun v' w' h1 h2 => h v' w' h1 ((Below.refl B w).drew.trans h2)

/-- A row of bools: what f tells of the numbers 0, .., P - 1. -/
def BoolsAt (w : World) (v : Value) (P : Nat) (f : Nat → Bool) : Prop := ∃ g c, v = .slice (some ⟨g, 0, none⟩) P c ∧ g < w.heap.size ∧ ∀ j, j < P → w.cell? ⟨g, j, none⟩ = some (.bool (f j))
theorem BoolsAt.below {w w' : World} {v : Value} {P : Nat} {f : Nat → Bool} (h : BoolsAt w v P f) (hb : Below w.heap.size w w') : BoolsAt w' v P f := by
  obtain ⟨g, c, e, hg, hc⟩ := h
  exact ⟨g, c, e, Nat.lt_of_lt_of_le hg hb.size, fun j hj => (hb.cell (p := ⟨g, j, none⟩) hg).trans (hc j hj)⟩
/-- The panic of a period with no number that is sought. -/
def empP : List PanicEntry := [{ v := .iface 78 (.agg #[]), recovered := false }]
theorem fl0_yes {p : Nat → Bool} {k : Nat} (h : p k = true) : flF p 0 (k + 1) = flF p 0 k ++ [(k : Int)] := by
  have := flF_yes (p := p) (a := 0) (k := k) (by rw [Nat.zero_add]; exact h)
  rwa [Nat.zero_add] at this
theorem fl0_no {p : Nat → Bool} {k : Nat} (h : p k = false) : flF p 0 (k + 1) = flF p 0 k := flF_no (p := p) (a := 0) (k := k) (by rw [Nat.zero_add]; exact h)
theorem fl0_nl (p : Nat → Bool) (P : Nat) : (flF p 0 P).length = (nlF p P).length := by rw [flF_nl, List.length_map]
set_option maxRecDepth 100000 in
set_option maxHeartbeats 1600000 in
theorem numbersThat_c (w : World) (vb : Value) (Al : Option Addr) (nl cl : Nat) (P : Nat) (f : Nat → Bool) (hP1 : 1 ≤ P) (hP : P ≤ 100000) (hB : BoolsAt w vb P f) (b : Bool) :
    Calls Try.prog 68 #[.agg #[vb, .slice Al nl cl], .bool b] w fun en w' =>
      ((nlF (fun n => f n == b) P).length = 0 ∧ en = .panicked empP ∨ 0 < (nlF (fun n => f n == b) P).length ∧ ∃ v, en = .returned v ∧ OwnI w' w.heap.size v (cyL (fun n => f n == b) P)) ∧ Below w.heap.size w w' := by
  obtain ⟨g, c, rfl, hg, hc⟩ := hB
  have Hc := Lib.hid hc
  obtain ⟨p, hp⟩ : ∃ p : Nat → Bool, (fun n => f n == b) = p := ⟨_, rfl⟩
  have Hpf : Hid (∀ n, (f n == b) = p n) := fun n => by rw [← hp]
  rw [hp]
  have Hy := Lib.hid (fun k => @fl0_yes p k)
  have Hn := Lib.hid (fun k => @fl0_no p k)
  have Hnl := Lib.hid (fl0_nl p P)
  have Hfl := Lib.hid (fun k => flF_len p 0 k)
  have HC : Hid (cyL p P = flF p 0 P ++ [(P : Int) + ivL (flF p 0 P) 0]) := rfl
  have Hpos := Lib.hid (fun i (hi : i < (nlF p P).length) => (nl_at (p := p) (P := P) hi).1)
  have Hat := Lib.hid (show ∀ k, k < (nlF p P).length → ivL (flF p 0 P) k = ((nlF p P).getD k 0 : Int) from fun k hk => by
    rw [flF_nl, ivL, List.getD_eq_getElem?_getD, List.getElem?_map, List.getElem?_eq_getElem hk, List.getD_eq_getElem?_getD, List.getElem?_eq_getElem hk]; rfl)
  clear hc hp
  obtain ⟨w1, hw1⟩ : ∃ w1, w.alloc (.cells #[.slice (some ⟨g, 0, none⟩) P c, .slice Al nl cl] 63) = w1 := ⟨_, rfl⟩
  have b1 : Below w.heap.size w w1 := by rw [← hw1]; exact (Below.refl _ _).alloc (Nat.le_refl _) _
  have hs1 : w1.heap.size = w.heap.size + 1 := by rw [← hw1]; simp
  have hc0 : w1.cell? ⟨w.heap.size, 0, none⟩ = some (.slice (some ⟨g, 0, none⟩) P c) := by rw [← hw1]; exact cell_of_row _ _ 0 _ _ _ (heap_alloc_new w _)
  have Hc0 := Lib.hid hc0
  have Hw1 := Lib.hid hw1
  clear hw1
  go_enter Try.func68, Try.ntmps68
  go_wp2_with fail
  rw [Hw1.out]
  go_loopw [5, 6, 7, 11] (fun v _ _ i wr => ∃ k : Nat, k ≤ P ∧ i = .int .i64 (k : Int) ∧ OwnI wr w1.heap.size v (flF p 0 k) ∧ Below w1.heap.size w1 wr) (fun _ _ _ i _ => P - (intOf i).toNat)
  case atStart => exact ⟨0, Nat.zero_le _, rfl, OwnI.nil _ _, Below.refl _ _⟩
  case round =>
    obtain ⟨k, hk, rfl, hown, hbel⟩ := hrel
    have hs := hbel.size
    have hkl := Hfl.out k
    have Hown := Lib.hid hown
    by_cases hlt : k < P
    · have hck := ((b1.trans (hbel.mono (by omega))).cell (p := ⟨g, k, none⟩) hg).trans (Hc.out k hlt)
      have hki : (k : Int) < (P : Int) := by omega
      have hpf := Hpf.out k
      have hy := Hy.out k
      have hn := Hn.out k
      obtain ⟨q, hq⟩ : ∃ q, f k = q := ⟨_, rfl⟩
      obtain ⟨L, hL⟩ : ∃ L, flF p 0 k = L := ⟨_, rfl⟩
      rw [hq] at hck hpf
      rw [hL] at hkl hy hn Hown
      have HL := Lib.hid hL
      have Hkl := Lib.hid hkl
      clear hq hL hown hkl
      cases hpk : p k with
      | true =>
        have hqb : (q == b) = true := by rw [hpf, hpk]
        have HY := Lib.hid (hy hpk)
        clear hy hn hpf hpk
        go_wp2_with (at_builtin; refine wp_app_int _ rfl _ _ rfl w1.heap.size _ _ rfl Hown.out _ rfl (by have := Hkl.out; omega) hs ?_; intro v' w6 hown6 b6)
        go_roundw
        case rel => exact ⟨k + 1, by omega, by go_num, by rw [HY.out]; exact hown6, hbel.trans b6⟩
        case measure => simp [intOf]; omega
      | false =>
        have hqb : (q == b) = false := by rw [hpf, hpk]
        have HY := Lib.hid (hn hpk)
        clear hy hn hpf hpk
        go_wp2
        go_roundw
        case rel => exact ⟨k + 1, by omega, by go_num, by rw [HY.out]; exact Hown.out, hbel⟩
        case measure => simp [intOf]; omega
    · have hkP : k = P := by omega
      subst hkP
      have hki : (k : Int) ≤ (k : Int) := Int.le_refl _
      have hcb := (hbel.cell (p := ⟨w.heap.size, 0, none⟩) (by show w.heap.size < _; omega)).trans Hc0.out
      obtain ⟨A, cA, rfl, hcells⟩ := own_row hown
      obtain ⟨N, hN⟩ : ∃ N, (nlF p k).length = N := ⟨_, rfl⟩
      have hfn : (flF p 0 k).length = N := Hnl.out.trans hN
      rw [hfn] at hcells hkl ⊢
      have HN := Lib.hid hN
      have Hcells := Lib.hid hcells
      have Hfn := Lib.hid hfn
      clear hown hN hcells
      by_cases hz : N = 0
      · subst hz
        go_wp2
        refine ⟨rfl, .inl ⟨HN.out, rfl⟩, b1.trans (hbel.mono (by omega))⟩
      · have hNp : 0 < N := by omega
        obtain ⟨g2, rfl, hg21, hg22, hc2⟩ := Hcells.out hNp
        have hx0 := hc2 0 hNp
        have ha0 := Hat.out 0 (by rw [HN.out]; exact hNp)
        have hp0 := Hpos.out 0 (by rw [HN.out]; exact hNp)
        have HCy := HC.out
        rw [ha0] at hx0 HCy
        obtain ⟨X, hX⟩ : ∃ X : Nat, (nlF p k).getD 0 0 = X := ⟨_, rfl⟩
        rw [hX] at hx0 hp0 HCy
        have Hcy := Lib.hid HCy
        have hw1 : IntKind.i64.wrap ((k : Int) + (X : Int)) = (k : Int) + (X : Int) := IntWalk.i64_in _ (by omega)
        have hn0 : (0 : Int) < (N : Int) := by omega
        have hNz : ¬ (N : Int) = 0 := by omega
        have hNb : ((N : Int) == 0) = false := beq_eq_false_iff_ne.2 hNz
        clear hc2 ha0 HCy hX hz
        rw [Hfn.out] at Hown
        have hle := Lib.hid (show (flF p 0 k).length ≤ 1048576 by rw [Hfn.out]; omega)
        go_wp2_with fail
        go_region_law (first | (refine step_app_int wr (by rfl) _ _ (by rfl) w1.heap.size _ _ (by rfl) Hown.out _ (by rfl) hle.out hs ?_; intro v' w6 hown6 hgr) | fail)
        all_goals (
          go_wp2
          go_ret
          exact ⟨.inr ⟨by rw [HN.out]; exact hNp, _, rfl, by rw [Hcy.out]; exact OwnI.mono hown6 (by omega)⟩, b1.trans ((hbel.trans (below_of_grown hgr hs fun q hq => (World.ownsRow.lt Hown.out q hq).1)).mono (by omega))⟩)
theorem numbersThat_yes (w : World) (vb : Value) (Al : Option Addr) (nl cl : Nat) (P : Nat) (f : Nat → Bool) (hP1 : 1 ≤ P) (hP : P ≤ 100000) (hB : BoolsAt w vb P f) (b : Bool) (h : 0 < (nlF (fun n => f n == b) P).length) :
    Calls Try.prog 68 #[.agg #[vb, .slice Al nl cl], .bool b] w fun en w' => (∃ v, en = .returned v ∧ OwnI w' w.heap.size v (cyL (fun n => f n == b) P)) ∧ Below w.heap.size w w' :=
  (numbersThat_c w vb Al nl cl P f hP1 hP hB b).mono fun e w' h2 => ⟨h2.1.resolve_left (fun h3 => by omega) |>.2, h2.2⟩
theorem numbersThat_no (w : World) (vb : Value) (Al : Option Addr) (nl cl : Nat) (P : Nat) (f : Nat → Bool) (hP1 : 1 ≤ P) (hP : P ≤ 100000) (hB : BoolsAt w vb P f) (b : Bool) (h : (nlF (fun n => f n == b) P).length = 0) :
    Calls Try.prog 68 #[.agg #[vb, .slice Al nl cl], .bool b] w fun en w' => en = .panicked empP ∧ Below w.heap.size w w' :=
  (numbersThat_c w vb Al nl cl P f hP1 hP hB b).mono fun e w' h2 => ⟨h2.1.resolve_right (fun h3 => by omega) |>.2, h2.2⟩

end Go.Proofs.Ytgkciiklgadgkaa

namespace Go.Proofs.Ytgkciiklgadgkaa
open Go.RowKit
set_option linter.unusedVariables false
set_option linter.unusedSimpArgs false

theorem results_cell1 {fn : Func} {p : Tmp} {ty : TypeId} (h : fn.results = #[.cell p ty]) (tmps : Array Value) (P : Program) (w : World) :
    (results fn tmps).run P w = ((asAddr (tmps.getD p undef)).run P w).andThen fun a w₁ => (loadVar ty a).run P w₁ := by
  simp only [results, h]
  simp [Sem.run_bind, Result.andThen]
theorem results_tmp_cell {fn : Func} {p u : Tmp} {ty : TypeId} (h : fn.results = #[.tmp u, .cell p ty]) (tmps : Array Value) (P : Program) (w : World) :
    (results fn tmps).run P w = ((asAddr (tmps.getD p undef)).run P w).andThen fun a w₁ => ((loadVar ty a).run P w₁).andThen fun v w₂ => .ok (.tuple #[tmps.getD u undef, v]) w₂ := by
  simp only [results, h]
  simp [Sem.run_bind, Result.andThen]
theorem results_cell2 {fn : Func} {p u : Tmp} {ty tu : TypeId} (h : fn.results = #[.cell p ty, .cell u tu]) (tmps : Array Value) (P : Program) (w : World) :
    (results fn tmps).run P w = ((asAddr (tmps.getD p undef)).run P w).andThen fun a w₁ => ((loadVar ty a).run P w₁).andThen fun v w₂ => ((asAddr (tmps.getD u undef)).run P w₂).andThen fun b w₃ => ((loadVar tu b).run P w₃).andThen fun y w₄ => .ok (.tuple #[v, y]) w₄ := by
  simp only [results, h]
  simp [Sem.run_bind, Result.andThen]
theorem info_Boo : (Try.prog.info? 4).map (fun i => (i.zero, i.size, i.bytes)) = some (some (.bool false), 1, 1) := by kernel_rfl
set_option maxRecDepth 100000 in
set_option maxHeartbeats 1600000 in
theorem roundOf_c (w : World) (A : Option Addr) (m c : Nat) (rs : List (Int × Int)) (hA : Rl w A rs) (hm : m = rs.length) (hp : perOk rs = true) :
    Calls Try.prog 52 #[.slice A m c, .int .i64 (perF rs)] w fun en w' =>
      (gpO rs = false ∧ en = .panicked empP ∨ gpO rs = true ∧ ∃ vb vl, en = .returned (.agg #[vb, vl]) ∧ BoolsAt w' vb (perF rs).toNat (lfQ rs) ∧ OwnI w' w.heap.size vl (nmC rs true)) ∧ Below w.heap.size w w' := by
  obtain ⟨hg, _, hP1, hP9⟩ := perOk_parts hp
  have Hm := Lib.hid hm
  have Hg := Lib.hid hg
  have Hnl := Lib.hid (gpA_nl hp)
  have HO := Lib.hid (gpO_ok hp)
  obtain ⟨P, hP⟩ := Int.eq_ofNat_of_zero_le (show 0 ≤ perF rs by omega)
  have hPt : (perF rs).toNat = P := by omega
  have HC : Hid (nmC rs true = cyL (fun n => lfQ rs n == true) P) := by show _ = _; rw [nmC, hPt]
  have Hq := Lib.hid (nmQ_true rs)
  rw [hPt] at Hnl ⊢
  rw [hP] at hP1 hP9 ⊢
  have hmk := fun W => mk_full Try.underlying61 info_Boo P (by omega) (by omega) W
  have hml := mk_owns (e := 4) #[.bool false] 1 P (by unfold maxLen; omega) (w.alloc (.cells #[.slice none 0 0, .slice none 0 0] 63))
  clear hm hg hp hP hPt
  go_enter Try.func52, Try.ntmps52
  go_wp2_with fail
  clear hmk
  obtain ⟨w0, hw0⟩ : ∃ w0, (((w.alloc (.cells #[.slice none 0 0, .slice none 0 0] 63)).alloc (.cells (madeCells #[.bool false] P) 4)).alloc (.cells #[.slice (some ⟨w.heap.size + 1, 0, none⟩) P P, .slice none 0 0] 63)) = w0 := ⟨_, rfl⟩
  have b0 : Below w.heap.size w w0 := by rw [← hw0]; exact (((Below.refl _ _).alloc (Nat.le_refl _) _).alloc (by simp) _).alloc (by simp; omega) _
  have hs0 : w0.heap.size = w.heap.size + 3 := by rw [← hw0]; simp
  have hr0 : w0.heap[w.heap.size + 1 + 1]? = some (.cells #[.slice (some ⟨w.heap.size + 1, 0, none⟩) P P, .slice none 0 0] 63 (0, 0)) := by
    have := heap_alloc_new ((w.alloc (.cells #[.slice none 0 0, .slice none 0 0] 63)).alloc (.cells (madeCells #[.bool false] P) 4)) (.cells #[.slice (some ⟨w.heap.size + 1, 0, none⟩) P P, .slice none 0 0] 63)
    rw [World.size_alloc, World.size_alloc, hw0] at this
    exact this
  have hq0 : w0.heap[w.heap.size]? = some (.cells #[.slice none 0 0, .slice none 0 0] 63 (0, 0)) := by
    rw [← hw0, Below.heap_alloc _ _ _ (by simp; omega), Below.heap_alloc _ _ _ (by simp)]
    exact heap_alloc_new w _
  have ho0 : w0.ownsRow (w.heap.size + 1) 4 1 (.slice (some ⟨w.heap.size + 1, 0, none⟩) P P) P (madeCells #[.bool false] (P * 1)).toList := by
    rw [← hw0]
    have h := World.ownsRow.alloc hml (.cells #[.slice (some ⟨w.heap.size + 1, 0, none⟩) P P, .slice none 0 0] 63)
    rw [World.size_alloc, Nat.mul_one] at h
    rw [Nat.mul_one]
    exact h
  rw [hw0]
  have Ho0 := Lib.hid ho0
  have Hr0 := Lib.hid hr0
  have Hq0 := Lib.hid hq0
  clear hml hw0 ho0 hr0 hq0
  obtain ⟨G, hG⟩ : ∃ G, w.heap.size = G := ⟨_, rfl⟩
  rw [hG] at Ho0 Hr0 Hq0 b0 hs0 ⊢
  have HG := Lib.hid hG
  have hwG : w.heap.size ≤ G := by omega
  have hA0 : ∀ W, Below G w W → Rl W A rs := fun W hb => hA.below (by rw [HG.out]; exact hb)
  have HA := Lib.hid hA0
  clear hA hG hA0
  go_loopw [6, 11] (fun _ i wr => ∃ k : Nat, k ≤ P ∧ i = .int .i64 (k : Int) ∧ (∃ xs, wr.ownsRow (G + 1) 4 1 (.slice (some ⟨G + 1, 0, none⟩) P P) P xs ∧ ∀ j, j < k → xs[j]? = some (.bool (lfQ rs j))) ∧ Below G w wr ∧ G + 3 ≤ wr.heap.size ∧
    wr.heap[G + 1 + 1]? = some (.cells #[.slice (some ⟨G + 1, 0, none⟩) P P, .slice none 0 0] 63 (0, 0)) ∧ wr.heap[G]? = some (.cells #[.slice none 0 0, .slice none 0 0] 63 (0, 0))) (fun _ i _ => P - (intOf i).toNat)
  case atStart => exact ⟨0, Nat.zero_le _, rfl, ⟨_, Ho0.out, by omega⟩, b0, by omega, Hr0.out, Hq0.out⟩
  case round =>
    obtain ⟨k, hk, rfl, ⟨xs, hown, hxs⟩, hbel, hsz, hr, hq⟩ := hrel
    have Hxs := Lib.hid hxs
    have Hown := Lib.hid hown
    have Hr := Lib.hid hr
    have Hq2 := Lib.hid hq
    have Hbel := Lib.hid hbel
    clear hxs hown hr hq hbel
    by_cases hlt : k < P
    · have hki : (k : Int) < (P : Int) := by omega
      have hcr : wr.cell? ⟨G + 1 + 1, 0, none⟩ = some (.slice (some ⟨G + 1, 0, none⟩) P P) := cell_of_row _ _ 0 _ _ _ Hr.out
      have hfun := fun W (hb : Below wr.heap.size wr W) => isLeft_c A c m rs (k : Int) W (HA.out W (Hbel.out.trans (hb.mono (by omega)))) Hm.out Hg.out (by omega) (by omega)
      have HF := Lib.hid hfun
      have hdrew : Below wr.heap.size wr wr.drew := (Below.refl wr.heap.size wr).drew
      obtain ⟨q, hqe⟩ : ∃ q, leftF rs (k : Int) = q := ⟨_, rfl⟩
      rw [hqe] at HF
      have Hqe := Lib.hid hqe
      obtain ⟨x0, hx0, hf0⟩ := own_get Hown.out k (by omega)
      clear hfun hqe
      go_wp2_with fail
      go_region_law (first | (go_simp; go_at_call 45; (refine (HF.out _ hdrew).mono ?_; rintro e w5 ⟨rfl, b5⟩; have hcr5 := (b5.cell (p := ⟨G + 1 + 1, 0, none⟩) (by show G + 1 + 1 < wr.heap.size; omega)).trans hcr; have hx5 := (b5.cell (p := ⟨G + 1, k, none⟩) (by show G + 1 < wr.heap.size; omega)).trans hx0; have hf5 := (b5.frozen (p := ⟨G + 1, k, none⟩) (by show G + 1 < wr.heap.size; omega)).trans hf0)) | fail)
      all_goals (
        go_wp2
        go_roundw
        case rel =>
          have b5' : Below wr.heap.size wr w5 := (Below.refl wr.heap.size wr).drew.trans b5
          have h1 := own_below Hown.out b5'
          have h2 := (h1.stored k (.bool q)).1
          have hs5 := b5'.size
          have hn1 : G + 1 ≠ G + 1 + 1 := by omega
          have hn2 : G + 1 ≠ G := by omega
          refine ⟨k + 1, by omega, by go_num, ⟨_, h2, fun j hj => ?_⟩, ((Hbel.out.trans (b5'.mono (by omega))).setCell (by show G ≤ G + 1; omega) _), by simp; omega, ?_, ?_⟩
          · have hxl : xs.length = P * 1 := Hown.out.1
            rcases Nat.lt_succ_iff_lt_or_eq.1 hj with h | h
            · rw [List.getElem?_set_ne (by omega)]
              exact Hxs.out j h
            · subst h
              rw [List.getElem?_set_self (by omega), lfQ, Hqe.out]
          · exact (heap_setCell_other w5 ⟨G + 1, k, none⟩ (G + 1 + 1) _ (fun h => hn1 h.symm)).trans ((b5'.block (G + 1 + 1) (by omega)).trans Hr.out)
          · exact (heap_setCell_other w5 ⟨G + 1, k, none⟩ G _ (fun h => hn2 h.symm)).trans ((b5'.block G (by omega)).trans Hq2.out)
        case measure => simp [intOf]; omega)
    · have hkP : k = P := by omega
      subst hkP
      have hki : (k : Int) ≤ (k : Int) := Int.le_refl _
      have hcr0 : wr.cell? ⟨G + 1 + 1, 0, none⟩ = some (.slice (some ⟨G + 1, 0, none⟩) k k) := cell_of_row _ _ 0 _ _ _ Hr.out
      have hcr1 : wr.cell? ⟨G + 1 + 1, 1, none⟩ = some (.slice none 0 0) := cell_of_row _ _ 1 _ _ _ Hr.out
      have hB : BoolsAt wr (.slice (some ⟨G + 1, 0, none⟩) k k) k (lfQ rs) := ⟨G + 1, k, rfl, by omega, fun j hj => (World.ownsRow.cellAt Hown.out j (by omega)).trans (Hxs.out j hj)⟩
      have HB := Lib.hid hB
      clear hB
      cases ho : gpO rs with
      | false =>
        have hz : (nlF (fun n => lfQ rs n == true) k).length = 0 := by
          have h := HO.out
          rw [ho] at h
          have h2 := decide_eq_false_iff_not.1 h.symm
          rw [Hq.out, ← Hnl.out]; omega
        have HN := Lib.hid (numbersThat_no wr (.slice (some ⟨G + 1, 0, none⟩) k k) none 0 0 k (lfQ rs) (by omega) (by omega) HB.out true hz)
        have Ho := Lib.hid ho
        clear ho hz
        go_wp2_with fail
        refine HN.out.mono ?_
        rintro e w6 ⟨rfl, b6⟩
        try go_wp2
        refine ⟨rfl, .inl ⟨Ho.out, rfl⟩, ?_⟩
        have := Hbel.out.trans (b6.mono (by omega))
        rw [HG.out]; exact this
      | true =>
        have hz : 0 < (nlF (fun n => lfQ rs n == true) k).length := by
          have h := HO.out
          rw [ho] at h
          have h2 := of_decide_eq_true h.symm
          rw [Hq.out, ← Hnl.out]; omega
        have HN := Lib.hid (numbersThat_yes wr (.slice (some ⟨G + 1, 0, none⟩) k k) none 0 0 k (lfQ rs) (by omega) (by omega) HB.out true hz)
        have Ho := Lib.hid ho
        clear ho hz
        go_wp2_with fail
        refine HN.out.mono ?_
        rintro e w6 ⟨⟨v6, rfl, o6⟩, b6⟩
        have hs6 := b6.size
        have hR6 := (b6.block (G + 1 + 1) (by omega)).trans Hr.out
        have hQ6 := (b6.block G (by omega)).trans Hq2.out
        have HB6 := Lib.hid (HB.out.below b6)
        obtain ⟨A6, c6, rfl, _⟩ := own_row o6
        obtain ⟨N6, hN6⟩ : ∃ N, (cyL (fun n => lfQ rs n == true) k).length = N := ⟨_, rfl⟩
        have O6 := Lib.hid o6
        rw [hN6] at O6 ⊢
        clear o6 hN6
        have d1 : w6.cell? ⟨G + 1 + 1, 1, none⟩ = some (.slice none 0 0) := cell_of_row _ _ 1 _ _ _ hR6
        have d0 : w6.cell? ⟨G + 1 + 1, 0, none⟩ = some (.slice (some ⟨G + 1, 0, none⟩) k k) := cell_of_row _ _ 0 _ _ _ hR6
        have f1 : w6.frozen? ⟨G + 1 + 1, 1, none⟩ = false := frozen_of_row _ _ _ _ _ hR6
        have e0 : w6.cell? ⟨G, 0, none⟩ = some (.slice none 0 0) := cell_of_row _ _ 0 _ _ _ hQ6
        have e1 : w6.cell? ⟨G, 1, none⟩ = some (.slice none 0 0) := cell_of_row _ _ 1 _ _ _ hQ6
        have g0 : w6.frozen? ⟨G, 0, none⟩ = false := frozen_of_row _ _ _ _ _ hQ6
        have g1 : w6.frozen? ⟨G, 1, none⟩ = false := frozen_of_row _ _ _ _ _ hQ6
        clear hR6 hQ6
        go_wp2
        refine bodyPost_ret (v := .agg #[.slice (some ⟨G + 1, 0, none⟩) k k, .slice A6 N6 c6]) (by rw [results_cell1 rfl]; go_simp) rfl ?_
        have hbT : Below G w w6 := Hbel.out.trans (b6.mono (by omega))
        refine ⟨.inr ⟨Ho.out, _, _, rfl, ?_, ?_⟩, ?_⟩
        · obtain ⟨gg, cc, e9, hgg, hcc⟩ := HB6.out
          cases e9
          refine ⟨G + 1, k, rfl, by simp; omega, fun j hj => ?_⟩
          rw [World.cell?_setCell_other _ _ _ _ (by simp), World.cell?_setCell_other _ _ _ _ (by simp), World.cell?_setCell_other _ _ _ _ (by simp)]
          exact hcc j hj
        · rw [HC.out, HG.out]
          exact OwnI.mono (ownsRow_setCell_below (ownsRow_setCell_below (ownsRow_setCell_below O6.out (a := ⟨G + 1 + 1, 1, none⟩) (by show G + 1 + 1 < wr.heap.size; omega) _) (a := ⟨G, 0, none⟩) (by show G < wr.heap.size; omega) _) (a := ⟨G, 1, none⟩) (by show G < wr.heap.size; omega) _) (by omega)
        · rw [HG.out]
          exact ((hbT.setCell (p := ⟨G + 1 + 1, 1, none⟩) (by show G ≤ G + 1 + 1; omega) _).setCell (p := ⟨G, 0, none⟩) (Nat.le_refl _) _).setCell (p := ⟨G, 1, none⟩) (Nat.le_refl _) _

end Go.Proofs.Ytgkciiklgadgkaa

namespace Go.Proofs.Ytgkciiklgadgkaa
open Go.RowKit
set_option linter.unusedVariables false
set_option linter.unusedSimpArgs false

theorem lt_of_cellE {w : World} {p : Addr} {x : Value} (h : w.cell? p = some x) : p.block < w.heap.size := by
  rcases Nat.lt_or_ge p.block w.heap.size with h1 | h1
  · exact h1
  · have h2 : w.heap[p.block]? = none := Array.getElem?_eq_none h1
    simp [World.cell?, h2] at h
/-- A list of operations, none of which recovers, walked as ever. -/
theorem wpOpsS_of_wpOps {P : Program} {ops : Array Oper} {Q : Exit → Act → List Frame → World → Prop} {cs : List Frame} (hno : ∀ a w, ¬ Q .outgrown a cs w) :
    ∀ (l : List Nat) (a : Act) (w : World), wpOps P ops (fun e a' w' => Q e a' cs w') l a w → wpOpsS P ops Q l a cs w
  | [], a, w, h => h
  | i :: rest, a, w, h => by
    have ih := wpOpsS_of_wpOps (P := P) (ops := ops) hno rest
    rw [wpOps] at h
    rw [wpOpsS]
    cases ho : ops[i]? with
    | none =>
      rw [ho] at h
      exact ih a w h
    | some o =>
      rw [ho] at h
      by_cases hw : Region.wanted o (yielded ops a.tmps) = true
      · simp only [hw, if_true] at h ⊢
        rcases h with h | ⟨_, a0, w0, h⟩
        · have h2 := Oper.wp_mono (K' := fun a' w' => wpOpsS P ops Q rest a' cs w') ih h
          unfold Oper.wp at h2
          generalize (execOp a.eval o).run P w = r at h2 ⊢
          cases r with
          | ok n w' => cases n <;> first | exact h2 | exact h2.elim
          | halt x w' => exact h2
        · exact absurd h (hno a0 w0)
      · simp only [hw, if_false, Bool.false_eq_true] at h ⊢
        exact ih _ _ h
theorem wpOpsS_recover {P : Program} {ops : Array Oper} {Q : Exit → Act → List Frame → World → Prop} {cs cs' : List Frame} {i : Nat} {rest : List Nat} {a : Act} {w w' : World} {o : Oper} {v : Value}
    (ho : ops[i]? = some o) (hw : Region.wanted o (yielded ops a.tmps) = true) (hr : (execOp a.eval o).run P w = .ok .recover w') (hc : recoverD cs = some (v, cs'))
    (hno : ∀ a w, ¬ Q .outgrown a cs' w) (h : wpOps P ops (fun e a' w' => Q e a' cs' w') rest (a.put o.dst v) w') : wpOpsS P ops Q (i :: rest) a cs w := by
  rw [wpOpsS, ho]
  simp only [hw, if_true, hr, hc]
  exact wpOpsS_of_wpOps hno _ _ _ h
theorem wpOpsS_norecover {P : Program} {ops : Array Oper} {Q : Exit → Act → List Frame → World → Prop} {cs : List Frame} {i : Nat} {rest : List Nat} {a : Act} {w w' : World} {o : Oper}
    (ho : ops[i]? = some o) (hw : Region.wanted o (yielded ops a.tmps) = true) (hr : (execOp a.eval o).run P w = .ok .recover w') (hc : recoverD cs = none)
    (hno : ∀ a w, ¬ Q .outgrown a cs w) (h : wpOps P ops (fun e a' w' => Q e a' cs w') rest (a.put o.dst .nilIface) w') : wpOpsS P ops Q (i :: rest) a cs w := by
  rw [wpOpsS, ho]
  simp only [hw, if_true, hr, hc]
  exact wpOpsS_of_wpOps hno _ _ _ h
theorem wpOps_tail {P : Program} {ops : Array Oper} {Q : Exit → Act → World → Prop} {k n : Nat} {a : Act} {w : World} (hn : (ops.toList.drop k).length = n) (h : wpList P ops Q (ops.toList.drop k) a w) : wpOps P ops Q (List.range' k n) a w := by
  rw [← hn, wpOps_eq_wpList _ k (fun j => by rw [List.getElem?_drop, Array.getElem?_toList])]
  exact h
theorem assertE_yes (W : World) : (Instr.typeAssert (.iface 78 (.agg #[])) 20 78 true).run Try.prog W = .ok (.tuple #[.agg #[], .bool true]) W := by kernel_rfl
theorem assertE_no (W : World) : (Instr.typeAssert .nilIface 20 78 true).run Try.prog W = .ok (.tuple #[.agg #[], .bool false]) W := by kernel_rfl
set_option maxRecDepth 100000 in
set_option maxHeartbeats 1600000 in
theorem catchI_panicking (p : Addr) (x : Value) (w : World) (hc : w.cell? p = some x) (hz : w.frozen? p = false) :
    CallsD Try.prog 51 #[.pointer (some p)] (.panicking empP) w fun e u' w' =>
      e = .returned (.tuple #[]) ∧ u' = .panicking [{ v := .iface 78 (.agg #[]), recovered := true }] ∧ w' = (w.alloc (.cells #[] 78)).setCell p (.bool false) := by
  have hta := assertE_yes
  refine callsD_of_wpS Try.func51 rfl fun c₀ cs hu => ?_
  apply wpS_seq
  apply wpS_region
  change wpOpsS Try.prog _ _ [0, 1, 2, 3, 4, 5, 6, 7] { tmps := #[.pointer (some p), undef, undef, undef, undef, undef, undef, undef, undef, undef], defers := [] } _ _
  refine wpOpsS_recover (cs' := { c₀ with mode := .panicking [{ v := .iface 78 (.agg #[]), recovered := true }] } :: cs) (v := .iface 78 (.agg #[])) (w' := w) rfl rfl (by simp [go_sem, execOp]) (by simp [recoverD, hu, empP]) ?_ ?_
  · intro a w h
    obtain ⟨_, h, _⟩ := h
    cases h
  · refine wpOps_tail (k := 1) (n := 7) rfl ?_
    simp only [List.drop_succ_cons, List.drop_zero]
    go_wp2
    have hp : p.block < w.heap.size := lt_of_cellE hc
    have hc2 : (w.alloc (.cells #[] 78)).cell? p = some x := (((Below.refl w.heap.size w).alloc (Nat.le_refl _) _).cell hp).trans hc
    have hz2 : (w.alloc (.cells #[] 78)).frozen? p = false := (((Below.refl w.heap.size w).alloc (Nat.le_refl _) _).frozen hp).trans hz
    show Code.wpS _ _ _ _ _ _
    refine wpS_of_wp ?_
    go_wp2
    exact ⟨rfl, _, rfl, _, results_none rfl _ _ _, rfl, rfl, rfl⟩
set_option maxRecDepth 100000 in
set_option maxHeartbeats 1600000 in
theorem catchI_idle (p : Addr) (x : Value) (w : World) (hc : w.cell? p = some x) (hz : w.frozen? p = false) :
    CallsD Try.prog 51 #[.pointer (some p)] .returning w fun e u' w' =>
      e = .returned (.tuple #[]) ∧ u' = .returning ∧ w' = (w.alloc (.cells #[] 78)).setCell p (.bool true) := by
  have hta := assertE_no
  refine callsD_of_wpS Try.func51 rfl fun c₀ cs hu => ?_
  apply wpS_seq
  apply wpS_region
  change wpOpsS Try.prog _ _ [0, 1, 2, 3, 4, 5, 6, 7] { tmps := #[.pointer (some p), undef, undef, undef, undef, undef, undef, undef, undef, undef], defers := [] } _ _
  refine wpOpsS_norecover (w' := w) rfl rfl (by simp [go_sem, execOp]) (by simp [recoverD, hu]) ?_ ?_
  · intro a w h
    obtain ⟨_, h, _⟩ := h
    cases h
  · refine wpOps_tail (k := 1) (n := 7) rfl ?_
    simp only [List.drop_succ_cons, List.drop_zero]
    go_wp2
    have hp : p.block < w.heap.size := lt_of_cellE hc
    have hc2 : (w.alloc (.cells #[] 78)).cell? p = some x := (((Below.refl w.heap.size w).alloc (Nat.le_refl _) _).cell hp).trans hc
    have hz2 : (w.alloc (.cells #[] 78)).frozen? p = false := (((Below.refl w.heap.size w).alloc (Nat.le_refl _) _).frozen hp).trans hz
    show Code.wpS _ _ _ _ _ _
    refine wpS_of_wp ?_
    go_wp2
    exact ⟨rfl, { c₀ with mode := .returning }.mode, by rw [← hu], _, results_none rfl _ _ _, rfl, rfl, rfl⟩
theorem perV_ok {rs : List (Int × Int)} (h : perOk rs = true) : perV rs = perF rs := by rw [perV, (perOk_parts h).1]; rfl
set_option maxRecDepth 100000 in
set_option maxHeartbeats 1600000 in
theorem doorI_c (w : World) (A : Option Addr) (m c : Nat) (rs : List (Int × Int)) (hA : Rl w A rs) (hm : m = rs.length) (hn : m ≤ 1048576) (f : Nat) (caps : Array Value)
    (hcf : ∀ (args : Array Value) (w : World), Sem.run Try.prog (callFunc f args) w = .ok (.enter f args) w) (ok : Bool) (x : Int) (hno : gpO rs = false → ok = false) (hx0 : ok = false → x = 0)
    (tell : gpO rs = true → ∀ W vb vl, Below w.heap.size w W → BoolsAt W vb (perF rs).toNat (lfQ rs) → OwnI W w.heap.size vl (nmC rs true) → Calls Try.prog f (#[.agg #[vb, vl]] ++ caps) W fun en w' => (ok = true ∧ en = .returned (.int .i64 x) ∨ ok = false ∧ en = .panicked empP) ∧ Below W.heap.size W w') :
    Calls Try.prog 32 #[.slice A m c, .func (.func f) #[] caps] w fun en w' => en = .returned (.tuple #[.int .i64 x, .bool ok]) ∧ Below w.heap.size w w' := by
  have Hm := Lib.hid hm
  have Tell := Lib.hid tell
  have Hno := Lib.hid hno
  have Hx0 := Lib.hid hx0
  have hmf : ∀ (fn : Fn) (first cap : Array Value) (w : World), (Instr.makeFunc fn first cap).run Try.prog w = .ok (.func fn first cap) w := fun _ _ _ _ => rfl
  obtain ⟨w1, hw1⟩ : ∃ w1, w.alloc (.cells #[.bool false] 4) = w1 := ⟨_, rfl⟩
  have b1 : Below w.heap.size w w1 := by rw [← hw1]; exact (Below.refl _ _).alloc (Nat.le_refl _) _
  have hs1 : w1.heap.size = w.heap.size + 1 := by rw [← hw1]; simp
  have hr1 : w1.heap[w.heap.size]? = some (.cells #[.bool false] 4 (0, 0)) := by rw [← hw1]; exact heap_alloc_new w _
  have Hr1 := Lib.hid hr1
  have Hw1 := Lib.hid hw1
  have hA1 := hA.below b1
  have Hp := Lib.hid (impl_PeriodOfRules_c w1 A m c rs hA1 Hm.out hn)
  clear hm tell hno hx0 hw1 hr1
  cases hpo : perOk rs with
  | false =>
    have hp2 := Hp.out
    have hok : ok = false := Hno.out (by rw [gpO, hpo]; rfl)
    have hx := Hx0.out hok
    rw [hpo] at hp2
    have Hp2 := Lib.hid hp2
    subst hok hx
    clear hp2 hpo
    go_enter_defers Try.func32, Try.ntmps32
    go_wp2_with fail
    rw [Hw1.out]
    refine Hp2.out.mono ?_
    rintro e w2 ⟨rfl, b2⟩
    have hr2 := (b2.block w.heap.size (by omega)).trans Hr1.out
    have hc2 : w2.cell? ⟨w.heap.size, 0, none⟩ = some (.bool false) := cell_of_row _ _ 0 _ _ _ hr2
    have hf2 : w2.frozen? ⟨w.heap.size, 0, none⟩ = false := frozen_of_row _ _ _ _ _ hr2
    go_wp2
    refine ⟨.tuple #[.int .i64 0, .bool false], by rw [results_tmp_cell rfl]; go_simp, rfl, ?_⟩
    exact ((b1.trans (b2.mono (by omega))).setCell (p := ⟨w.heap.size, 0, none⟩) (Nat.le_refl _) _).setCell (p := ⟨w.heap.size, 0, none⟩) (Nat.le_refl _) _
  | true =>
    have hp2 := Hp.out
    rw [hpo, perV_ok hpo] at hp2
    have Hp2 := Lib.hid hp2
    have HRo := Lib.hid (fun W (hb : Below w.heap.size w W) => roundOf_c W A m c rs (hA.below hb) Hm.out hpo)
    clear hp2 hpo
    go_enter_defers Try.func32, Try.ntmps32
    go_wp2_with fail
    rw [Hw1.out]
    refine Hp2.out.mono ?_
    rintro e w2 ⟨rfl, b2⟩
    have hr2 := (b2.block w.heap.size (by omega)).trans Hr1.out
    have hc2 : w2.cell? ⟨w.heap.size, 0, none⟩ = some (.bool false) := cell_of_row _ _ 0 _ _ _ hr2
    have hf2 : w2.frozen? ⟨w.heap.size, 0, none⟩ = false := frozen_of_row _ _ _ _ _ hr2
    go_wp2_with fail
    have b3 : Below w.heap.size w (w2.setCell ⟨w.heap.size, 0, none⟩ (.bool true)) := (b1.trans (b2.mono (by omega))).setCell (p := ⟨w.heap.size, 0, none⟩) (Nat.le_refl _) _
    have hr3 : (w2.setCell ⟨w.heap.size, 0, none⟩ (.bool true)).heap[w.heap.size]? = some (.cells #[.bool true] 4 (0, 0)) := heap_setCell_same w2 w.heap.size 0 _ _ _ hr2
    have hs3 : w.heap.size < (w2.setCell ⟨w.heap.size, 0, none⟩ (.bool true)).heap.size := by simp; have := b2.size; omega
    generalize w2.setCell ⟨w.heap.size, 0, none⟩ (.bool true) = w3 at b3 hr3 hs3
    clear hc2 hf2 hr2
    refine (HRo.out _ b3).mono ?_
    rintro e w4 ⟨h4, b4⟩
    have hs4 := b4.size
    have hr4 := (b4.block w.heap.size hs3).trans hr3
    have hb4 := b3.trans (b4.mono (by omega))
    have hc4 : w4.cell? ⟨w.heap.size, 0, none⟩ = some (.bool true) := cell_of_row _ _ 0 _ _ _ hr4
    have hf4 : w4.frozen? ⟨w.heap.size, 0, none⟩ = false := frozen_of_row _ _ _ _ _ hr4
    rcases h4 with ⟨ho, rfl⟩ | ⟨ho, vb, vl, rfl, hB, hV⟩
    · have hok : ok = false := Hno.out ho
      have hx := Hx0.out hok
      subst hok hx
      show Leaves _ _ _ _ _ _ _
      refine leaves_cons (f := 51) (args := #[.pointer (some ⟨w.heap.size, 0, none⟩)]) (by simp) (by simp [go_sem]) ?_
      refine (catchI_panicking ⟨w.heap.size, 0, none⟩ (.bool true) w4 hc4 hf4).mono ?_
      rintro e u' w5 ⟨rfl, rfl, rfl⟩
      have hc5 : ((w4.alloc (.cells #[] 78)).setCell ⟨w.heap.size, 0, none⟩ (.bool false)).cell? ⟨w.heap.size, 0, none⟩ = some (.bool false) := cell_of_row _ _ 0 _ _ _ (heap_setCell_same _ w.heap.size 0 _ _ (.bool false) ((Below.heap_alloc w4 _ _ (by omega)).trans hr4))
      refine ⟨.tuple #[.int .i64 0, .bool false], by rw [results_tmp_cell rfl]; go_simp, rfl, ?_⟩
      exact (hb4.alloc (by omega) _).setCell (p := ⟨w.heap.size, 0, none⟩) (Nat.le_refl _) _
    · go_wp2_with fail
      refine (Tell.out ho w4 vb vl hb4 hB (OwnI.mono hV (by omega))).mono ?_
      rintro e w5 ⟨h5, b5⟩
      have hs5 := b5.size
      have hr5 := (b5.block w.heap.size (by omega)).trans hr4
      have hb5 := hb4.trans (b5.mono (by omega))
      have hc5 : w5.cell? ⟨w.heap.size, 0, none⟩ = some (.bool true) := cell_of_row _ _ 0 _ _ _ hr5
      have hf5 : w5.frozen? ⟨w.heap.size, 0, none⟩ = false := frozen_of_row _ _ _ _ _ hr5
      clear hc4 hf4 hr4
      rcases h5 with ⟨rfl, rfl⟩ | ⟨hok, rfl⟩
      · go_wp2
        have hr6 := heap_setCell_same w5 w.heap.size 0 _ _ (.bool true) hr5
        have hc6 : (w5.setCell ⟨w.heap.size, 0, none⟩ (.bool true)).cell? ⟨w.heap.size, 0, none⟩ = some (.bool true) := cell_of_row _ _ 0 _ _ _ hr6
        have hf6 : (w5.setCell ⟨w.heap.size, 0, none⟩ (.bool true)).frozen? ⟨w.heap.size, 0, none⟩ = false := frozen_of_row _ _ _ _ _ hr6
        refine leaves_cons (f := 51) (args := #[.pointer (some ⟨w.heap.size, 0, none⟩)]) (by simp) (by simp [go_sem]) ?_
        refine (catchI_idle ⟨w.heap.size, 0, none⟩ (.bool true) _ hc6 hf6).mono ?_
        rintro e u' w7 ⟨rfl, rfl, rfl⟩
        have hc7 : (((w5.setCell ⟨w.heap.size, 0, none⟩ (.bool true)).alloc (.cells #[] 78)).setCell ⟨w.heap.size, 0, none⟩ (.bool true)).cell? ⟨w.heap.size, 0, none⟩ = some (.bool true) := cell_of_row _ _ 0 _ _ _ (heap_setCell_same _ w.heap.size 0 _ _ (.bool true) ((Below.heap_alloc _ _ _ (by simp; omega)).trans hr6))
        refine ⟨.tuple #[.int .i64 x, .bool true], by rw [results_tmp_cell rfl]; go_simp, rfl, ?_⟩
        exact ((hb5.setCell (p := ⟨w.heap.size, 0, none⟩) (Nat.le_refl _) _).alloc (by simp; omega) _).setCell (p := ⟨w.heap.size, 0, none⟩) (Nat.le_refl _) _
      · have hx := Hx0.out hok
        subst hok hx
        show Leaves _ _ _ _ _ _ _
        refine leaves_cons (f := 51) (args := #[.pointer (some ⟨w.heap.size, 0, none⟩)]) (by simp) (by simp [go_sem]) ?_
        refine (catchI_panicking ⟨w.heap.size, 0, none⟩ (.bool true) w5 hc5 hf5).mono ?_
        rintro e u' w7 ⟨rfl, rfl, rfl⟩
        have hc7 : ((w5.alloc (.cells #[] 78)).setCell ⟨w.heap.size, 0, none⟩ (.bool false)).cell? ⟨w.heap.size, 0, none⟩ = some (.bool false) := cell_of_row _ _ 0 _ _ _ (heap_setCell_same _ w.heap.size 0 _ _ (.bool false) ((Below.heap_alloc w5 _ _ (by omega)).trans hr5))
        refine ⟨.tuple #[.int .i64 0, .bool false], by rw [results_tmp_cell rfl]; go_simp, rfl, ?_⟩
        exact (hb5.alloc (by omega) _).setCell (p := ⟨w.heap.size, 0, none⟩) (Nat.le_refl _) _

end Go.Proofs.Ytgkciiklgadgkaa

namespace Go.Proofs.Ytgkciiklgadgkaa
open Go.RowKit
set_option linter.unusedVariables false
set_option linter.unusedSimpArgs false


end Go.Proofs.Ytgkciiklgadgkaa

namespace Go.Proofs.Ytgkciiklgadgkaa
open Go.RowKit
set_option linter.unusedVariables false
set_option linter.unusedSimpArgs false


end Go.Proofs.Ytgkciiklgadgkaa

namespace Go.Proofs.Ytgkciiklgadgkaa
open Go.RowKit
set_option linter.unusedVariables false
set_option linter.unusedSimpArgs false

theorem cyL_bound {p : Nat → Bool} {P i : Nat} (hm : 0 < (nlF p P).length) (h : i ≤ (nlF p P).length) : 0 ≤ ivL (cyL p P) i ∧ ivL (cyL p P) i ≤ 2 * (P : Int) := by
  rw [cyL_at hm h]
  have h1 : uF p P i ≤ uF p P (nlF p P).length := by
    have := uF_mono hm i ((nlF p P).length - i)
    rw [show i + ((nlF p P).length - i) = (nlF p P).length by omega] at this
    omega
  have h2 : uF p P (nlF p P).length < P + P := by
    unfold uF
    rw [Nat.mod_self, Nat.div_self hm]
    have := (nl_at hm).1
    omega
  omega
theorem nmC_len {rs : List (Int × Int)} (h : perOk rs = true) : (nmC rs true).length = (gpA rs).length + 1 := by rw [nmC, nmQ_true, cyL_len, gpA_nl h]
theorem nmC_bound {rs : List (Int × Int)} (h : gpO rs = true) : ∀ i, i < (gpA rs).length + 1 → 0 ≤ ivL (nmC rs true) i ∧ ivL (nmC rs true) i ≤ 300000 := by
  intro i hi
  obtain ⟨h1, h2⟩ := gpO_parts h
  have hp := perOk_parts h1
  rw [gpA_nl h1] at h2 hi
  rw [nmC, nmQ_true]
  have := cyL_bound (p := lfQ rs) (P := (perF rs).toNat) h2 (i := i) (by omega)
  omega

end Go.Proofs.Ytgkciiklgadgkaa

namespace Go.Proofs.Ytgkciiklgadgkaa
open Go.RowKit
set_option linter.unusedVariables false
set_option linter.unusedSimpArgs false

theorem maxOf_mxL (zs : List Int) : ∀ k, 0 < k → k ≤ zs.length → Lib.maxOf (zs.take k) = mxL zs k
  | 0, h, _ => absurd h (Nat.lt_irrefl _)
  | 1, _, _ => by rw [Lib.maxOf_one, mxL, mxL]; show ivL zs 0 = _; omega
  | k + 2, _, hk => by
    rw [Lib.maxOf_step zs (k + 1) (by omega) (by omega), maxOf_mxL zs (k + 1) (by omega) (by omega), mxL]
    show max _ (ivL zs (k + 1)) = _
    rfl

theorem mxL_bound {xs : List Int} {lo hi : Int} : ∀ {k}, 0 < k → (∀ i, i < k → lo ≤ ivL xs i ∧ ivL xs i ≤ hi) → lo ≤ mxL xs k ∧ mxL xs k ≤ hi := by
  intro k hk h
  obtain ⟨i, hi, e⟩ := mxL_at xs hk
  rw [e]
  exact h i hi
theorem dfL_at {xs : List Int} {k i : Nat} (h : i < k) : ivL (dfL xs k) i = ivL xs (i + 1) - ivL xs i := by simp [dfL, ivL, h]
set_option maxRecDepth 100000 in
set_option maxHeartbeats 800000 in
theorem longestRunBetween_c (w : World) (A : Option Addr) (n c : Nat) (xs : List Int) (hA : Il w A xs) (hn : n = xs.length) (hl : n ≤ 300000) (h2 : 2 ≤ n) (hb : ∀ j, j < n → 0 ≤ ivL xs j ∧ ivL xs j ≤ 300000) :
    Calls Try.prog 53 #[.slice A n c] w fun en w' => en = .returned (.int .i64 (mxL (dfL xs (n - 1)) (n - 1) - 1)) ∧ Below w.heap.size w w' := by
  have Hg := Lib.hid (gapsBetween_c w A n c xs hA hn hl hb)
  have hS := dfL_len xs (n - 1)
  have hmx := mxL_bound (xs := dfL xs (n - 1)) (lo := -300000) (hi := 300000) (k := n - 1) (by omega) fun i hi => by
    rw [dfL_at hi]
    have := hb i (by omega)
    have := hb (i + 1) (by omega)
    omega
  have hmo := maxOf_mxL (dfL xs (n - 1)) (n - 1) (by omega) (by omega)
  obtain ⟨S, hSe⟩ : ∃ S, n - 1 = S := ⟨_, rfl⟩
  have hS0 : 0 < S := by omega
  have hS9 : S ≤ 300000 := by omega
  obtain ⟨gs, hgs⟩ : ∃ gs, dfL xs (n - 1) = gs := ⟨_, rfl⟩
  rw [hgs] at Hg hS hmx hmo ⊢
  rw [hSe] at hS hmx hmo ⊢
  have HS := Lib.hid hS
  have Hmo := Lib.hid hmo
  obtain ⟨M, hM⟩ : ∃ M, mxL gs S = M := ⟨_, rfl⟩
  rw [hM] at Hmo hmx ⊢
  have hw : IntKind.i64.wrap (M - 1) = M - 1 := IntWalk.i64_in _ (by omega)
  clear hA hn hb hgs hSe hS hmo hM
  go_enter Try.func53, Try.ntmps53
  go_wp2_with fail
  refine Hg.out.mono ?_
  rintro e w2 ⟨⟨v2, rfl, o2⟩, b2⟩
  obtain ⟨A2, c2, rfl, hcl⟩ := own_row o2
  rw [HS.out] at hcl ⊢
  obtain ⟨g, rfl, _, hg2, hc⟩ := hcl hS0
  have Hc := Lib.hid hc
  clear o2 hcl hc
  go_wp2_with fail
  refine (Try.slices_Max_int g 0 S c2 gs _ hS0 (by rw [HS.out]; exact Nat.le_refl _) (by omega) (fun j hj => by rw [Nat.zero_add]; exact Hc.out j (by rw [← HS.out]; exact hj))).mono ?_
  rw [Hmo.out]
  rintro e w3 ⟨rfl, rfl⟩
  go_wp2
  go_ret
  exact ⟨rfl, b2⟩

end Go.Proofs.Ytgkciiklgadgkaa

namespace Go.Proofs.Ytgkciiklgadgkaa
open Go.RowKit
set_option linter.unusedVariables false
set_option linter.unusedSimpArgs false

theorem nmC_front {rs : List (Int × Int)} (h : perOk rs = true) {i : Nat} (hi : i < (gpA rs).length) : ivL (nmC rs true) i = ivL (gpA rs) i := by
  have hl : (flF (lfQ rs) 0 (perF rs).toNat).length = (gpA rs).length := by rw [gpA_ok h]
  rw [nmC, nmQ_true, cyL, ivL, List.getD_eq_getElem?_getD, List.getElem?_append_left (by omega), gpA_ok h, ivL, List.getD_eq_getElem?_getD]
theorem rec_last {rs : List (Int × Int)} (h : gpO rs = true) : ∃ l, (recP (nmC rs true) (gpGA rs) (gpA rs).length).2 = l ++ [(lgN rs, lgV rs)] := by
  obtain ⟨h1, h2⟩ := gpO_parts h
  obtain ⟨k, hk⟩ : ∃ k, (gpA rs).length = k + 1 := ⟨(gpA rs).length - 1, by omega⟩
  have hb := bgI_lt (gpGA rs) (k := k + 1) (by omega)
  obtain ⟨_, l, e⟩ := recP_best (xs := nmC rs true) (gs := gpGA rs) (k := k) fun i hi => gpGA_pos h (by omega)
  refine ⟨l, ?_⟩
  rw [hk, e, lgN_yes h, lgV_yes h, hk, nmC_front h1 (by omega)]
set_option maxRecDepth 100000 in
set_option maxHeartbeats 800000 in
theorem longestRunOut_c (W : World) (B : Nat) (vb vl : Value) (rs : List (Int × Int)) (ho : gpO rs = true) (hl : OwnI W B vl (nmC rs true)) :
    Calls Try.prog 33 #[.agg #[vb, vl]] W fun en w' => en = .returned (.int .i64 (roV rs)) ∧ Below W.heap.size W w' := by
  obtain ⟨hp, hpos⟩ := gpO_parts ho
  have hlen := nmC_len hp
  obtain ⟨A, c, rfl, _⟩ := own_row hl
  have hA := Il_of_own hl
  have h9 := gpA_len rs
  obtain ⟨n, hn⟩ : ∃ n, (nmC rs true).length = n := ⟨_, rfl⟩
  rw [hn] at hlen ⊢
  have hR := fun w (hA : Il w A (nmC rs true)) => longestRunBetween_c w A n c (nmC rs true) hA hn.symm (by omega) (by omega) (fun j hj => nmC_bound ho j (by omega))
  have he : dfL (nmC rs true) (n - 1) = gpGA rs := by rw [hlen, Nat.add_sub_cancel]; exact nmC_left ho
  have he2 : n - 1 = (gpA rs).length := by omega
  rw [he, he2, mxO_is (gpGA rs) hpos (fun i hi => gpGA_pos ho hi), ← roV_yes ho] at hR
  have HR := Lib.hid hR
  have HA := Lib.hid hA
  clear hl hA hp ho hn hlen he he2 hR h9 hpos
  go_enter Try.func33, Try.ntmps33
  go_wp2_with fail
  refine (HR.out _ (HA.out.below ((Below.refl _ _).alloc (Nat.le_refl _) _))).mono ?_
  rintro e w2 ⟨rfl, b2⟩
  go_wp2
  go_ret
  exact ⟨rfl, (Below.refl _ _).alloc (Nat.le_refl _) _ |>.trans (b2.mono (by simp))⟩
set_option maxRecDepth 100000 in
set_option maxHeartbeats 800000 in
theorem impl_LongestRunOut_c (w : World) (A : Option Addr) (m c : Nat) (rs : List (Int × Int)) (hA : Rl w A rs) (hm : m = rs.length) (hn : m ≤ 1048576) :
    Calls Try.prog 15 #[.slice A m c] w fun en w' => en = .returned (.tuple #[.int .i64 (roV rs), .bool (gpO rs)]) ∧ Below w.heap.size w w' := by
  have HD := Lib.hid (doorI_c w A m c rs hA hm hn 33 #[] (fun _ _ => rfl) (gpO rs) (roV rs) (fun h => h) (fun h => roV_no h) (fun ho W vb vl hb hB hv => (longestRunOut_c W _ vb vl rs ho hv).mono fun e w' h => ⟨.inl ⟨ho, h.1⟩, h.2⟩))
  clear hA hm
  go_enter Try.func15, Try.ntmps15
  go_wp2_with fail
  refine HD.out.mono ?_
  rintro e w2 ⟨rfl, b2⟩
  go_wp2
  go_ret2
  exact ⟨rfl, b2⟩
theorem left_nil (n : Int) : leftF [] n = true := by rw [left_iff]; intro r h; cases h
theorem nmL_nl (rs : List (Int × Int)) : outN rs = (nlF (fun n => lfQ rs n == false) (perF rs).toNat).length := by rw [outN_nl, nmQ_false]

end Go.Proofs.Ytgkciiklgadgkaa
