import Derived.Test.YtgnmookklplnmaaB4
import Derived.Test.YtgnmookklplnmaaM0
import Derived.StillTailTactics
import Derived.Deep.RegionHeld3
import Derived.Deep.AppendLies
import Derived.IntWalk
namespace Go.Proofs.Ytgnmookklplnmaa
open Go.RowKit
set_option linter.unusedVariables false
set_option linter.unusedSimpArgs false

/-- A callee that leaves the world as it is, called in a still region. -/
theorem scall {P : Program} {f : FuncId} {args : Array Value} {w : World} {v : Value} (h : Calls P f args w fun e w' => e = .returned v ∧ w = w') :
    Calls P f args w fun e w' => e = .returned v ∧ w' = w := h.mono fun _ _ hh => ⟨hh.1, hh.2.symm⟩

/-- append(out, r) for a row of rules that the call owns. -/
theorem wp_app_rule {ops : Array Oper} {rest : List Oper} {o : Oper} {a : Act} {Q : Exit → Act → World → Prop} (w : World) (hgd : o.guard = none) (s x : Operand)
    (ho : o.op = .call { callee := .builtin .append, args := #[s, x], argTypes := #[44, 44] }) (B : Nat) (v : Value) (rs : List (Int × Int)) (hs : a.eval s = v) (hown : OwnR w B v rs) (e q : Int)
    (hx : a.eval x = .slice (some ⟨w.heap.size, 0, none⟩) 1 1) (hl : rs.length ≤ 1048576) (hB : B ≤ w.heap.size)
    (h : ∀ v' w', OwnR w' B v' (rs ++ [(e, q)]) → Below B w w' → wpList Try.prog ops Q rest (a.put o.dst v') w') : wpList Try.prog ops Q (o :: rest) a (w.alloc (.cells #[.int .i64 e, .int .i64 q] 69)) := by
  obtain ⟨i0, hi, hz0, hz1, hz2⟩ := info_parts info_R
  refine wpList_append_own _ hgd s x 44 ho B 69 i0 _ 2 16 Try.underlying44 hi hz0 hz1 hz2 rfl (by decide) v _ _ hs (World.ownsRow.alloc hown _) ⟨w.heap.size, 0, none⟩ 1 1 [.int .i64 e, .int .i64 q] hx rfl ?_ ?_ (by unfold maxLen; omega) (by omega) (by simp; omega) ?_
  · intro j u hj
    match j, hj with
    | 0, hj => simp at hj; subst hj; simp [Addr.add]
    | 1, hj => simp at hj; subst hj; simp [Addr.add]
    | j + 2, hj => simp at hj
  · intro u hu
    simp at hu
    rcases hu with rfl | rfl <;> rfl
  · intro v' w' hown' hg _
    refine h v' w' ?_ (((Below.refl B w).alloc hB _).grown hg (by simp; omega) fun k hk => (World.ownsRow.lt hown k hk).1)
    simpa [OwnR, cellsR, List.flatMap_append] using hown'

theorem grown_cell {w w' : World} {g i : Nat} {row : Option Nat} {u : Value} (hgr : w.grownBy w' row) (hc : w.cell? ⟨g, i, none⟩ = some u) (hne : ∀ q, row = some q → q < g) : w'.cell? ⟨g, i, none⟩ = some u :=
  hgr.cell hc (fun e => by have := hne _ e.symm; simp at this)
/-- The same at a step of a region that draws its order. -/
theorem step_app_rule {ops : Array Oper} {o : Oper} {a : Act} {K : Act → World → Prop} {Q : Exit → Act → World → Prop} {E : Prop} (w : World) (hgd : o.guard = none) (s x : Operand)
    (ho : o.op = .call { callee := .builtin .append, args := #[s, x], argTypes := #[44, 44] }) (B : Nat) (v : Value) (rs : List (Int × Int)) (hs : a.eval s = v) (hown : OwnR w B v rs) (e q : Int)
    (hx : a.eval x = .slice (some ⟨w.heap.size, 0, none⟩) 1 1) (hl : rs.length ≤ 1048576) (hB : B ≤ w.heap.size)
    (h : ∀ v' w', OwnR w' B v' (rs ++ [(e, q)]) → w.grownBy w' v.ownBlock → K (a.put o.dst v') w') :
    if Region.wanted o (yielded ops a.tmps) = true then Oper.wp Try.prog o a ((w.alloc (.cells #[.int .i64 e, .int .i64 q] 69)).drew) K Q else E := by
  obtain ⟨i0, hi, hz0, hz1, hz2⟩ := info_parts info_R
  refine step_append_lies _ hgd s x 44 ho B 69 i0 _ 2 16 Try.underlying44 hi hz0 hz1 hz2 rfl (by decide) v _ _ hs (World.ownsRow.drew (World.ownsRow.alloc hown _)) ⟨w.heap.size, 0, none⟩ 1 1 [.int .i64 e, .int .i64 q] hx rfl ?_ ?_ (by decide) (by unfold maxLen; omega) (by omega) (by simp; omega) _ rfl ?_
  · intro j u hj
    match j, hj with
    | 0, hj => simp at hj; subst hj; simp [Addr.add]
    | 1, hj => simp at hj; subst hj; simp [Addr.add]
    | j + 2, hj => simp at hj
  · intro u hu
    simp at hu
    rcases hu with rfl | rfl <;> rfl
  · intro g cap w' hown' hg _ _
    refine h _ w' ?_ ⟨hg.os, hg.tape, hg.output, Nat.le_trans (by simp) hg.size, fun i hi hn => (hg.block i (by simp; omega) hn).trans (Below.heap_alloc w _ i hi)⟩
    simpa [OwnR, cellsR, List.flatMap_append] using hown'

/-- The first k rules, each moved. -/
def movL (f : Int → Int → Int) (rs : List (Int × Int)) (k : Nat) : List (Int × Int) := (rs.take k).map fun r => (r.1, f r.1 r.2)
theorem movL_succ (f : Int → Int → Int) {rs : List (Int × Int)} {k : Nat} (h : k < rs.length) : movL f rs (k + 1) = movL f rs k ++ [(evL rs k, f (evL rs k) (reL rs k))] := by
  unfold movL
  rw [List.take_succ_eq_append_getElem h, List.map_append, evL_ext h]
  rfl
theorem movL_len (f : Int → Int → Int) (rs : List (Int × Int)) (k : Nat) : (movL f rs k).length ≤ rs.length := by
  unfold movL; rw [List.length_map, List.length_take]; omega
def movA (f : Int → Int → Int) (rs : List (Int × Int)) : List (Int × Int) := rs.map fun r => (r.1, f r.1 r.2)
theorem movL_all (f : Int → Int → Int) (rs : List (Int × Int)) : movL f rs rs.length = movA f rs := by unfold movL movA; rw [List.take_length]
theorem movA_len (f : Int → Int → Int) (rs : List (Int × Int)) : (movA f rs).length = rs.length := List.length_map _
theorem movA_get (f : Int → Int → Int) {rs : List (Int × Int)} {k : Nat} (h : k < rs.length) : evL (movA f rs) k = evL rs k ∧ reL (movA f rs) k = f (evL rs k) (reL rs k) := by
  simp [movA, evL, reL, h]

def fMove (by_ : Int) (e r : Int) : Int := restF (r + by_) e
def moveV (rs : List (Int × Int)) (n : Int) : List (Int × Int) := if okN rs n then movA (fMove n) rs else []
theorem moveV_no {rs : List (Int × Int)} {n : Int} (h : okN rs n = false) : moveV rs n = [] := by rw [moveV, h]; rfl
theorem moveV_yes {rs : List (Int × Int)} {n : Int} (h : okN rs n = true) : moveV rs n = movA (fMove n) rs := by rw [moveV, h]; rfl


def fMirror (e r : Int) : Int := restF (-r) e
def mirrorV (rs : List (Int × Int)) : List (Int × Int) := if goodL rs then movA fMirror rs else []
theorem mirrorV_no {rs : List (Int × Int)} (h : goodL rs = false) : mirrorV rs = [] := by rw [mirrorV, h]; rfl
theorem mirrorV_yes {rs : List (Int × Int)} (h : goodL rs = true) : mirrorV rs = movA fMirror rs := by rw [mirrorV, h]; rfl


end Go.Proofs.Ytgnmookklplnmaa
