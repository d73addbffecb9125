import Derived.Test.YtbaimgdnajompaaB4
import Derived.Test.YtbaimgdnajompaaM0
import Derived.StillTailTactics
import Derived.Deep.RegionHeld3
import Derived.Deep.AppendLies
import Derived.IntWalk
namespace Go.Proofs.Ytbaimgdnajompaa
open Go.RowKit
set_option linter.unusedVariables false
set_option linter.unusedSimpArgs false

/-- A callee that leaves the world as it is, called in a still region. -/
theorem scall {P : Program} {f : FuncId} {args : Array Value} {w : World} {v : Value} (h : Calls P f args w fun e w' => e = .returned v ∧ w = w') :
    Calls P f args w fun e w' => e = .returned v ∧ w' = w := h.mono fun _ _ hh => ⟨hh.1, hh.2.symm⟩

/-- append(out, r) for a row of rules that the call owns. -/
theorem wp_app_rule {ops : Array Oper} {rest : List Oper} {o : Oper} {a : Act} {Q : Exit → Act → World → Prop} (w : World) (hgd : o.guard = none) (s x : Operand)
    (ho : o.op = .call { callee := .builtin .append, args := #[s, x], argTypes := #[31, 31] }) (B : Nat) (v : Value) (rs : List (Int × Int)) (hs : a.eval s = v) (hown : OwnR w B v rs) (e q : Int)
    (hx : a.eval x = .slice (some ⟨w.heap.size, 0, none⟩) 1 1) (hl : rs.length ≤ 1048576) (hB : B ≤ w.heap.size)
    (h : ∀ v' w', OwnR w' B v' (rs ++ [(e, q)]) → Below B w w' → wpList Try.prog ops Q rest (a.put o.dst v') w') : wpList Try.prog ops Q (o :: rest) a (w.alloc (.cells #[.int .i64 e, .int .i64 q] 25)) := by
  obtain ⟨i0, hi, hz0, hz1, hz2⟩ := info_parts info_R
  refine wpList_append_own _ hgd s x 31 ho B 25 i0 _ 2 16 Try.underlying31 hi hz0 hz1 hz2 rfl (by decide) v _ _ hs (World.ownsRow.alloc hown _) ⟨w.heap.size, 0, none⟩ 1 1 [.int .i64 e, .int .i64 q] hx rfl ?_ ?_ (by unfold maxLen; omega) (by omega) (by simp; omega) ?_
  · intro j u hj
    match j, hj with
    | 0, hj => simp at hj; subst hj; simp [Addr.add]
    | 1, hj => simp at hj; subst hj; simp [Addr.add]
    | j + 2, hj => simp at hj
  · intro u hu
    simp at hu
    rcases hu with rfl | rfl <;> rfl
  · intro v' w' hown' hg _
    refine h v' w' ?_ (((Below.refl B w).alloc hB _).grown hg (by simp; omega) fun k hk => (World.ownsRow.lt hown k hk).1)
    simpa [OwnR, cellsR, List.flatMap_append] using hown'

theorem grown_cell {w w' : World} {g i : Nat} {row : Option Nat} {u : Value} (hgr : w.grownBy w' row) (hc : w.cell? ⟨g, i, none⟩ = some u) (hne : ∀ q, row = some q → q < g) : w'.cell? ⟨g, i, none⟩ = some u :=
  hgr.cell hc (fun e => by have := hne _ e.symm; simp at this)
/-- The same at a step of a region that draws its order. -/
theorem step_app_rule {ops : Array Oper} {o : Oper} {a : Act} {K : Act → World → Prop} {Q : Exit → Act → World → Prop} {E : Prop} (w : World) (hgd : o.guard = none) (s x : Operand)
    (ho : o.op = .call { callee := .builtin .append, args := #[s, x], argTypes := #[31, 31] }) (B : Nat) (v : Value) (rs : List (Int × Int)) (hs : a.eval s = v) (hown : OwnR w B v rs) (e q : Int)
    (hx : a.eval x = .slice (some ⟨w.heap.size, 0, none⟩) 1 1) (hl : rs.length ≤ 1048576) (hB : B ≤ w.heap.size)
    (h : ∀ v' w', OwnR w' B v' (rs ++ [(e, q)]) → w.grownBy w' v.ownBlock → K (a.put o.dst v') w') :
    if Region.wanted o (yielded ops a.tmps) = true then Oper.wp Try.prog o a ((w.alloc (.cells #[.int .i64 e, .int .i64 q] 25)).drew) K Q else E := by
  obtain ⟨i0, hi, hz0, hz1, hz2⟩ := info_parts info_R
  refine step_append_lies _ hgd s x 31 ho B 25 i0 _ 2 16 Try.underlying31 hi hz0 hz1 hz2 rfl (by decide) v _ _ hs (World.ownsRow.drew (World.ownsRow.alloc hown _)) ⟨w.heap.size, 0, none⟩ 1 1 [.int .i64 e, .int .i64 q] hx rfl ?_ ?_ (by decide) (by unfold maxLen; omega) (by omega) (by simp; omega) _ rfl ?_
  · intro j u hj
    match j, hj with
    | 0, hj => simp at hj; subst hj; simp [Addr.add]
    | 1, hj => simp at hj; subst hj; simp [Addr.add]
    | j + 2, hj => simp at hj
  · intro u hu
    simp at hu
    rcases hu with rfl | rfl <;> rfl
  · intro g cap w' hown' hg _ _
    refine h _ w' ?_ ⟨hg.os, hg.tape, hg.output, Nat.le_trans (by simp) hg.size, fun i hi hn => (hg.block i (by simp; omega) hn).trans (Below.heap_alloc w _ i hi)⟩
    simpa [OwnR, cellsR, List.flatMap_append] using hown'

/-- The first k rules, each moved. -/
def movL (f : Int → Int → Int) (rs : List (Int × Int)) (k : Nat) : List (Int × Int) := (rs.take k).map fun r => (r.1, f r.1 r.2)
theorem movL_succ (f : Int → Int → Int) {rs : List (Int × Int)} {k : Nat} (h : k < rs.length) : movL f rs (k + 1) = movL f rs k ++ [(evL rs k, f (evL rs k) (reL rs k))] := by
  unfold movL
  rw [List.take_succ_eq_append_getElem h, List.map_append, evL_ext h]
  rfl
theorem movL_len (f : Int → Int → Int) (rs : List (Int × Int)) (k : Nat) : (movL f rs k).length ≤ rs.length := by
  unfold movL; rw [List.length_map, List.length_take]; omega
def movA (f : Int → Int → Int) (rs : List (Int × Int)) : List (Int × Int) := rs.map fun r => (r.1, f r.1 r.2)
theorem movL_all (f : Int → Int → Int) (rs : List (Int × Int)) : movL f rs rs.length = movA f rs := by unfold movL movA; rw [List.take_length]
theorem movA_len (f : Int → Int → Int) (rs : List (Int × Int)) : (movA f rs).length = rs.length := List.length_map _
theorem movA_get (f : Int → Int → Int) {rs : List (Int × Int)} {k : Nat} (h : k < rs.length) : evL (movA f rs) k = evL rs k ∧ reL (movA f rs) k = f (evL rs k) (reL rs k) := by
  simp [movA, evL, reL, h]

def fMove (by_ : Int) (e r : Int) : Int := restF (r + by_) e
def moveV (rs : List (Int × Int)) (n : Int) : List (Int × Int) := if okN rs n then movA (fMove n) rs else []
theorem moveV_no {rs : List (Int × Int)} {n : Int} (h : okN rs n = false) : moveV rs n = [] := by rw [moveV, h]; rfl
theorem moveV_yes {rs : List (Int × Int)} {n : Int} (h : okN rs n = true) : moveV rs n = movA (fMove n) rs := by rw [moveV, h]; rfl

set_option maxRecDepth 100000 in
set_option maxHeartbeats 1000000 in
theorem spec_MoveRules_c (w : World) (A : Option Addr) (m c : Nat) (rs : List (Int × Int)) (hA : Rl w A rs) (hm : m = rs.length) (hn : m ≤ 1048576) (n : Int) :
    Calls Try.prog 57 #[.slice A m c, .int .i64 n] w fun en w' => (∃ v, en = .returned (.tuple #[v, .bool (okN rs n)]) ∧ OwnR w' w.heap.size v (moveV rs n)) ∧ Below w.heap.size w w' := by
  have Hm := Lib.hid hm
  clear hm
  cases hg : goodL rs with
  | false =>
    have ho : okN rs n = false := by simp [okN, *]
    rw [moveV_no ho, ho]
    clear ho
    go_enter Try.func57, Try.ntmps57
    go_wp2_with fail
    refine (good_c _ _ _ rs _ hA Hm.out hn).mono ?_
    rintro e w1 ⟨rfl, b1⟩
    have hA_1 := hA.below b1
    go_wp2
    go_ret2
    exact ⟨⟨_, rfl, OwnR.nil _ _⟩, b1⟩
  | true =>
    cases hk : numB n with
    | false =>
      have ho : okN rs n = false := by simp [okN, *]
      rw [moveV_no ho, ho]
      clear ho
      go_enter Try.func57, Try.ntmps57
      go_wp2_with fail
      refine (good_c _ _ _ rs _ hA Hm.out hn).mono ?_
      rintro e w1 ⟨rfl, b1⟩
      have hA_1 := hA.below b1
      go_wp2_with fail
      refine (siNumber_c _ _).mono ?_
      rintro e w2 ⟨rfl, rfl⟩
      go_wp2
      go_ret2
      exact ⟨⟨_, rfl, OwnR.nil _ _⟩, b1⟩
    | true =>
      have ho : okN rs n = true := by simp [okN, *]
      rw [moveV_yes ho, ho]
      obtain ⟨k1, k2⟩ := numB_true.1 hk
      have h12 : m ≤ 12 := by rw [Hm.out]; exact good_len hg
      clear ho
      have Hg := Lib.hid hg
      have Hk := Lib.hid hk
      go_enter Try.func57, Try.ntmps57
      go_wp2_with fail
      refine (good_c _ _ _ rs _ hA Hm.out hn).mono ?_
      rintro e w1 ⟨rfl, b1⟩
      have hA_1 := hA.below b1
      go_wp2_with fail
      refine (siNumber_c _ _).mono ?_
      rintro e w2 ⟨rfl, rfl⟩
      go_wp2
      go_loopw [6, 19] (fun v i wr => ∃ k : Nat, k ≤ m ∧ i = .int .i64 k ∧ OwnR wr w.heap.size v (movL (fMove n) rs k) ∧ Below w.heap.size w wr) (fun _ i _ => m - (intOf i).toNat)
      case atStart => exact ⟨0, Nat.zero_le _, rfl, OwnR.nil _ _, b1⟩
      case round =>
        obtain ⟨k, hk, rfl, hown, hbel⟩ := hrel
        have Hown := Lib.hid hown
        clear hown
        by_cases hlt : k < m
        · have hlt1 : k < rs.length := by have := Hm.out; omega
          obtain ⟨b, off, rfl, hb, hr⟩ := hA (by omega)
          have hc0 := (hbel.cell (p := ⟨b, off + k * 2, none⟩) hb).trans (hr k hlt1).1
          have hc1 := (hbel.cell (p := ⟨b, off + k * 2 + 1, none⟩) hb).trans (hr k hlt1).2
          obtain ⟨e1, e2, e3, e4⟩ := okR_at Hg.out hlt1
          have hs := hbel.size
          have hml : (movL (fMove n) rs k).length ≤ 1048576 := by have := movL_len (fMove n) rs k; have := Hm.out; omega
          have hmf : fMove n (evL rs k) (reL rs k) = restF (reL rs k + n) (evL rs k) := rfl
          have Hms := Lib.hid (movL_succ (fMove n) hlt1)
          have Hmf := Lib.hid hmf
          clear hmf
          go_wp2_with fail
          obtain ⟨W, hd0, hd1, hsz, hbel2, hown1, hWe⟩ : ∃ W, W.cell? ⟨wr.heap.size, 0, none⟩ = some (.int .i64 (evL rs k)) ∧ W.cell? ⟨wr.heap.size, 1, none⟩ = some (.int .i64 (reL rs k)) ∧ wr.heap.size < W.heap.size ∧ Below w.heap.size w W ∧ OwnR W w.heap.size _ (movL (fMove n) rs k) ∧ wr.alloc (.cells #[.int .i64 (evL rs k), .int .i64 (reL rs k)] 25) = W := ⟨_, by simp, by simp, by simp, hbel.alloc hs _, World.ownsRow.alloc Hown.out _, rfl⟩
          rw [hWe]
          clear hWe
          have Hown1 := Lib.hid hown1
          clear hown1
          have hp1 : -1000000000 ≤ reL rs k + n := by omega
          have hp2 : reL rs k + n ≤ 1000000000 := by omega
          have hw : IntKind.i64.wrap (reL rs k + n) = reL rs k + n := IntWalk.i64_in _ (by omega)
          have hsW : w.heap.size ≤ W.heap.size := hbel2.size
          have hne := fun q hq => (World.ownsRow.lt Hown.out q hq).2
          go_region_held3 (fun w' => w'.cell? ⟨wr.heap.size, 0, none⟩ = some (.int .i64 (evL rs k)) ∧ w'.cell? ⟨wr.heap.size, 1, none⟩ = some (.int .i64 (reL rs k)))
            (go_keep)
            (first | (go_at_call 84; refine (siRest_c _ _ _ hp1 hp2 e1 e2).mono ?_; rintro e w5 ⟨rfl, rfl⟩) | (refine step_app_rule W (by rfl) _ _ (by rfl) w.heap.size _ _ (by rfl) Hown1.out (evL rs k) (restF (reL rs k + n) (evL rs k)) (by rfl) hml hsW ?_; intro v' w6 hown3 hgr; have hq0 := grown_cell hgr hd0 hne; have hq1 := grown_cell hgr hd1 hne))
          go_wp2
          go_roundw
          case rel => exact ⟨k + 1, by omega, by go_num, by rw [Hms.out, Hmf.out]; exact hown3, hbel2.trans (below_of_grown hgr hsW fun q hq => (World.ownsRow.lt Hown.out q hq).1)⟩
          case measure => simp [intOf]; omega
        · go_wp2
          go_ret2
          have hkm : k = rs.length := by have := Hm.out; omega
          exact ⟨⟨_, rfl, by rw [← movL_all, ← hkm]; exact Hown.out⟩, hbel⟩

def fMirror (e r : Int) : Int := restF (-r) e
def mirrorV (rs : List (Int × Int)) : List (Int × Int) := if goodL rs then movA fMirror rs else []
theorem mirrorV_no {rs : List (Int × Int)} (h : goodL rs = false) : mirrorV rs = [] := by rw [mirrorV, h]; rfl
theorem mirrorV_yes {rs : List (Int × Int)} (h : goodL rs = true) : mirrorV rs = movA fMirror rs := by rw [mirrorV, h]; rfl

set_option maxRecDepth 100000 in
set_option maxHeartbeats 1000000 in
theorem spec_MirrorRules_c (w : World) (A : Option Addr) (m c : Nat) (rs : List (Int × Int)) (hA : Rl w A rs) (hm : m = rs.length) (hn : m ≤ 1048576) :
    Calls Try.prog 59 #[.slice A m c] w fun en w' => (∃ v, en = .returned (.tuple #[v, .bool (goodL rs)]) ∧ OwnR w' w.heap.size v (mirrorV rs)) ∧ Below w.heap.size w w' := by
  have Hm := Lib.hid hm
  clear hm
  cases hg : goodL rs with
  | false =>
    rw [mirrorV_no hg]
    go_enter Try.func59, Try.ntmps59
    go_wp2_with fail
    refine (good_c _ _ _ rs _ hA Hm.out hn).mono ?_
    rintro e w1 ⟨rfl, b1⟩
    have hA_1 := hA.below b1
    go_wp2
    go_ret2
    exact ⟨⟨_, rfl, OwnR.nil _ _⟩, b1⟩
  | true =>
    rw [mirrorV_yes hg]
    have h12 : m ≤ 12 := by rw [Hm.out]; exact good_len hg
    have Hg := Lib.hid hg
    go_enter Try.func59, Try.ntmps59
    go_wp2_with fail
    refine (good_c _ _ _ rs _ hA Hm.out hn).mono ?_
    rintro e w1 ⟨rfl, b1⟩
    have hA_1 := hA.below b1
    go_wp2
    go_loopw [4, 12] (fun v i wr => ∃ k : Nat, k ≤ m ∧ i = .int .i64 k ∧ OwnR wr w.heap.size v (movL (fMirror) rs k) ∧ Below w.heap.size w wr) (fun _ i _ => m - (intOf i).toNat)
    case atStart => exact ⟨0, Nat.zero_le _, rfl, OwnR.nil _ _, b1⟩
    case round =>
      obtain ⟨k, hk, rfl, hown, hbel⟩ := hrel
      have Hown := Lib.hid hown
      clear hown
      by_cases hlt : k < m
      · have hlt1 : k < rs.length := by have := Hm.out; omega
        obtain ⟨b, off, rfl, hb, hr⟩ := hA (by omega)
        have hc0 := (hbel.cell (p := ⟨b, off + k * 2, none⟩) hb).trans (hr k hlt1).1
        have hc1 := (hbel.cell (p := ⟨b, off + k * 2 + 1, none⟩) hb).trans (hr k hlt1).2
        obtain ⟨e1, e2, e3, e4⟩ := okR_at Hg.out hlt1
        have hs := hbel.size
        have hml : (movL (fMirror) rs k).length ≤ 1048576 := by have := movL_len (fMirror) rs k; have := Hm.out; omega
        have hmf : fMirror (evL rs k) (reL rs k) = restF (-reL rs k) (evL rs k) := rfl
        have Hms := Lib.hid (movL_succ (fMirror) hlt1)
        have Hmf := Lib.hid hmf
        clear hmf
        go_wp2_with fail
        obtain ⟨W, hd0, hd1, hsz, hbel2, hown1, hWe⟩ : ∃ W, W.cell? ⟨wr.heap.size, 0, none⟩ = some (.int .i64 (evL rs k)) ∧ W.cell? ⟨wr.heap.size, 1, none⟩ = some (.int .i64 (reL rs k)) ∧ wr.heap.size < W.heap.size ∧ Below w.heap.size w W ∧ OwnR W w.heap.size _ (movL (fMirror) rs k) ∧ wr.alloc (.cells #[.int .i64 (evL rs k), .int .i64 (reL rs k)] 25) = W := ⟨_, by simp, by simp, by simp, hbel.alloc hs _, World.ownsRow.alloc Hown.out _, rfl⟩
        rw [hWe]
        clear hWe
        have Hown1 := Lib.hid hown1
        clear hown1
        have hp1 : -1000000000 ≤ -reL rs k := by omega
        have hp2 : -reL rs k ≤ 1000000000 := by omega
        have hw : IntKind.i64.wrap (-reL rs k) = -reL rs k := IntWalk.i64_in _ (by omega)
        have hsW : w.heap.size ≤ W.heap.size := hbel2.size
        have hne := fun q hq => (World.ownsRow.lt Hown.out q hq).2
        go_region_held3 (fun w' => w'.cell? ⟨wr.heap.size, 0, none⟩ = some (.int .i64 (evL rs k)) ∧ w'.cell? ⟨wr.heap.size, 1, none⟩ = some (.int .i64 (reL rs k)))
          (go_keep)
          (first | (go_at_call 84; refine (siRest_c _ _ _ hp1 hp2 e1 e2).mono ?_; rintro e w5 ⟨rfl, rfl⟩) | (refine step_app_rule W (by rfl) _ _ (by rfl) w.heap.size _ _ (by rfl) Hown1.out (evL rs k) (restF (-reL rs k) (evL rs k)) (by rfl) hml hsW ?_; intro v' w6 hown3 hgr; have hq0 := grown_cell hgr hd0 hne; have hq1 := grown_cell hgr hd1 hne))
        go_wp2
        go_roundw
        case rel => exact ⟨k + 1, by omega, by go_num, by rw [Hms.out, Hmf.out]; exact hown3, hbel2.trans (below_of_grown hgr hsW fun q hq => (World.ownsRow.lt Hown.out q hq).1)⟩
        case measure => simp [intOf]; omega
      · go_wp2
        go_ret2
        have hkm : k = rs.length := by have := Hm.out; omega
        exact ⟨⟨_, rfl, by rw [← movL_all, ← hkm]; exact Hown.out⟩, hbel⟩

end Go.Proofs.Ytbaimgdnajompaa
