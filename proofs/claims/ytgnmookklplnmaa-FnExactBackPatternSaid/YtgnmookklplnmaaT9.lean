import Derived.Test.YtgnmookklplnmaaT8
namespace Go.Proofs.Ytgnmookklplnmaa
open Go.RowKit
set_option linter.unusedVariables false
set_option linter.unusedSimpArgs false

/-- append(v, y) at a step of a region that draws its order. -/
theorem step_app_int {ops : Array Oper} {o : Oper} {a : Act} {K : Act → World → Prop} {Q : Exit → Act → World → Prop} {E : Prop} (w : World) (hgd : o.guard = none) (s x : Operand)
    (ho : o.op = .call { callee := .builtin .append, args := #[s, x], argTypes := #[22, 22] }) (B : Nat) (v : Value) (xs : List Int) (hs : a.eval s = v) (hown : OwnI w B v xs) (y : Int)
    (hx : a.eval x = .slice (some ⟨w.heap.size, 0, none⟩) 1 1) (hl : xs.length ≤ 1048576) (hB : B ≤ w.heap.size)
    (h : ∀ v' w', OwnI w' B v' (xs ++ [y]) → w.grownBy w' v.ownBlock → K (a.put o.dst v') w') :
    if Region.wanted o (yielded ops a.tmps) = true then Oper.wp Try.prog o a ((w.alloc (.cells #[.int .i64 y] 3)).drew) K Q else E := by
  obtain ⟨i0, hi, hz0, hz1, hz2⟩ := info_parts info_I
  refine step_append_lies _ hgd s x 22 ho B 3 i0 _ 1 8 Try.underlying22 hi hz0 hz1 hz2 rfl (by decide) v _ _ hs (World.ownsRow.drew (World.ownsRow.alloc hown _)) ⟨w.heap.size, 0, none⟩ 1 1 [.int .i64 y] hx rfl ?_ ?_ (by decide) (by unfold maxLen; omega) (by omega) (by simp; omega) _ rfl ?_
  · intro j u hj
    cases j with
    | zero => simp at hj; subst hj; simp [Addr.add]
    | succ j => simp at hj
  · intro u hu
    simp at hu
    subst hu
    rfl
  · intro g cap w' hown' hg _ _
    refine h _ w' ?_ ⟨hg.os, hg.tape, hg.output, Nat.le_trans (by simp) hg.size, fun i hi hn => (hg.block i (by simp; omega) hn).trans (Below.heap_alloc w _ i hi)⟩
    simpa [OwnI, List.map_append] using hown'

/-- The first k offsets of the pattern told from its last one back. -/
def bkL (xs : List Int) (k : Nat) : List Int := (List.range k).map fun i => ivL xs (xs.length - 1) - ivL xs (xs.length - 1 - i)
theorem bkL_succ (xs : List Int) (k : Nat) : bkL xs (k + 1) = bkL xs k ++ [ivL xs (xs.length - 1) - ivL xs (xs.length - 1 - k)] := by simp [bkL, List.range_succ]
theorem bkL_len (xs : List Int) (k : Nat) : (bkL xs k).length = k := by simp [bkL]
def bkV (xs : List Int) : List Int := if goodP xs then bkL xs xs.length else []
theorem bkV_no {xs : List Int} (h : goodP xs = false) : bkV xs = [] := by rw [bkV, h]; rfl
theorem bkV_yes {xs : List Int} (h : goodP xs = true) : bkV xs = bkL xs xs.length := by rw [bkV, h]; rfl
theorem bkV_len (xs : List Int) : (bkV xs).length ≤ 8 := by
  cases h : goodP xs with
  | false => rw [bkV_no h]; simp
  | true => rw [bkV_yes h, bkL_len]; exact (goodP_parts h).2.1

set_option maxRecDepth 100000 in
set_option maxHeartbeats 1600000 in
theorem spec_BackPattern_c (w : World) (A : Option Addr) (m c : Nat) (xs : List Int) (hA : Il w A xs) (hm : m = xs.length) (hn : m ≤ 1048576) :
    Calls Try.prog 40 #[.slice A m c] w fun en w' => (∃ v, en = .returned (.tuple #[v, .bool (goodP xs)]) ∧ OwnI w' w.heap.size v (bkV xs)) ∧ Below w.heap.size w w' := by
  have Hm := Lib.hid hm
  clear hm
  cases hg : goodP xs with
  | false =>
    rw [bkV_no hg]
    go_enter Try.func40, Try.ntmps40
    go_wp2_with fail
    refine (reGood_c _ _ _ _ xs hA Hm.out hn).mono ?_
    rintro e w1 ⟨rfl, b1⟩
    have hA_1 := hA.below b1
    go_wp2
    go_ret2
    exact ⟨⟨_, rfl, OwnI.nil _ _⟩, b1⟩
  | true =>
    rw [bkV_yes hg]
    have hm1 : 1 ≤ m := by have := Hm.out; have := (goodP_parts hg).1; omega
    have hm8 : m ≤ 8 := by have := Hm.out; have := (goodP_parts hg).2.1; omega
    have Hx := Lib.hid (goodP_small hg)
    obtain ⟨M, hM⟩ : ∃ M, m = M + 1 := ⟨m - 1, by omega⟩
    have HM := Lib.hid hM
    have hMm : (M : Int) < (m : Int) := by omega
    have hM0 : (0 : Int) ≤ (M : Int) := by omega
    have hM8 : (M : Int) ≤ 8 := by omega
    have e0 : IntKind.i64.wrap ((m : Int) - 1) = (M : Int) := by rw [hM, Int.natCast_succ, Int.add_sub_cancel]; exact IntWalk.i64_in _ (by omega)
    clear hM
    have Hg := Lib.hid hg
    go_enter Try.func40, Try.ntmps40
    go_wp2_with fail
    refine (reGood_c _ _ _ _ xs hA Hm.out hn).mono ?_
    rintro e w1 ⟨rfl, b1⟩
    have hA_1 := hA.below b1
    go_wp2_with fail
    go_loopw [4, 5] (fun v i wr => ∃ (k : Nat) (z : Int), k ≤ m ∧ i = .int .i64 z ∧ z = (M : Int) - (k : Int) ∧ OwnI wr w1.heap.size v (bkL xs k) ∧ Below w1.heap.size w1 wr) (fun _ i _ => (intOf i + 1).toNat)
    case atStart => exact ⟨0, (M : Int), by omega, by first | rfl | rw [e0], by omega, OwnI.nil _ _, Below.refl _ _⟩
    case round =>
      obtain ⟨k, z, hk, rfl, hz, hown, hbel⟩ := hrel
      have Hown := Lib.hid hown
      clear hown
      have hs := hbel.size
      by_cases hlt : k < m
      · obtain ⟨j, rfl⟩ : ∃ j : Nat, z = (j : Int) := Int.eq_ofNat_of_zero_le (by have := HM.out; omega)
        have hjk : j + k = M := by have := HM.out; omega
        obtain ⟨b, off, rfl, hb, hr⟩ := (hA_1) (by have := Hm.out; omega)
        have hcl := (hbel.cell (p := ⟨b, off + M, none⟩) hb).trans (hr M (by have := Hm.out; have := HM.out; omega))
        have hcj := (hbel.cell (p := ⟨b, off + j, none⟩) hb).trans (hr j (by have := Hm.out; have := HM.out; omega))
        have hxl := Hx.out M (by have := Hm.out; have := HM.out; omega)
        have hxj := Hx.out j (by have := Hm.out; have := HM.out; omega)
        have Hbs := Lib.hid (bkL_succ xs k)
        have hml : (bkL xs k).length ≤ 1048576 := by rw [bkL_len]; omega
        obtain ⟨x, hx⟩ : ∃ x, ivL xs M = x := ⟨_, rfl⟩
        obtain ⟨y, hy⟩ : ∃ y, ivL xs j = y := ⟨_, rfl⟩
        have Hy : Hid (bkL xs (k + 1) = bkL xs k ++ [x - y]) := by
          show _ = _
          rw [Hbs.out, ← Hm.out, show m - 1 = M by have := HM.out; omega, show M - k = j by omega, hx, hy]
        rw [hx] at hcl hxl
        rw [hy] at hcj hxj
        clear hx hy hr hz
        have hw : IntKind.i64.wrap (x - y) = x - y := IntWalk.i64_in _ (by omega)
        have hne := fun q hq => (World.ownsRow.lt Hown.out q hq).1
        have hj0 : (0 : Int) ≤ (j : Int) := by omega
        have hjM : (j : Int) < (m : Int) := by omega
        go_wp2_with fail
        go_region_held3 (fun w' => w'.cell? ⟨b, off + M, none⟩ = some (.int .i64 x) ∧ w'.cell? ⟨b, off + j, none⟩ = some (.int .i64 y))
          (go_keep)
          (first | (refine step_app_int wr (by rfl) _ _ (by rfl) w1.heap.size _ _ (by rfl) Hown.out (x - y) (by rfl) hml hs ?_; intro v' w6 hown3 hgr; have hq0 := hgr.cell hcl (fun e => by have := hne _ e.symm; simp at this; omega); have hq1 := hgr.cell hcj (fun e => by have := hne _ e.symm; simp at this; omega)))
        clear hw
        go_wp2
        go_roundw
        case rel => exact ⟨k + 1, (j : Int) - 1, by omega, rfl, by omega, by rw [Hy.out]; exact hown3, hbel.trans (below_of_grown hgr hs fun q hq => (World.ownsRow.lt Hown.out q hq).1)⟩
        case measure => simp [intOf]
      · obtain rfl : z = -1 := by have := HM.out; omega
        clear hz
        have Hy : Hid (bkL xs k = bkL xs xs.length) := by show _ = _; rw [← Hm.out, show k = m by omega]
        go_wp2
        go_ret2
        exact ⟨⟨_, rfl, OwnI.mono (by rw [← Hy.out]; exact Hown.out) (b1).size⟩, (b1).trans (hbel.mono (b1).size)⟩

end Go.Proofs.Ytgnmookklplnmaa
