import Derived.Test.YtfhaeplamahcpaaDoorSP3
import Derived.RangeFuncNested
import Derived.RangeFuncBound
import Derived.RangeFuncCalls
import Derived.RangeFuncLeaves
import Derived.RangeFuncFrom
namespace Go.Proofs.YtfhaeplamahcpaaDoor
open Go.RowKit
set_option linter.unusedVariables false
set_option linter.unusedSimpArgs false

/-! A loop over an iterator that stores, between two rounds, into one cell of its own (strings.SplitSeq's text). -/
/-- A band of blocks lies as it lay. -/
def BandK (lo hi : Nat) (A B : World) : Prop := A.heap.size ≤ B.heap.size ∧ ∀ k, lo ≤ k → k < hi → B.heap[k]? = A.heap[k]?
theorem BandK.trans {lo hi : Nat} {A B C : World} (h : BandK lo hi A B) (k : BandK lo hi B C) : BandK lo hi A C := ⟨Nat.le_trans h.1 k.1, fun i a b => (k.2 i a b).trans (h.2 i a b)⟩
theorem BandK.putObj {lo hi : Nat} (W : World) (k : Nat) (o : Obj) (hk : hi ≤ k) : BandK lo hi W (W.putObj k o) :=
  ⟨by simp [World.putObj], fun i _ hi => World.putObj_heap_other (by omega)⟩
/-- The iterator's word: for whatever J abides new blocks, walks, and a store into the cell at gs. -/
def SeqCell {α : Type} (F : Fence) (n : Nat) (P : Program) (g : Nat) (lb : Array Value) (encs : α → Array Value) (gs lo hi : Nat) (S Sp : List α → Prop) (N : Nat) (w : World) : Prop :=
  ∀ (l : Nat) (J Jx : List α → World → Prop) (W : World), w.heap.size ≤ W.heap.size → (∀ k, k < w.heap.size → W.heap[k]? = w.heap[k]?) → AbidesFrom W.heap.size J → AbidesFrom W.heap.size Jx →
    (∀ s A u, J s A → J s (A.setCell ⟨gs, 0, none⟩ u)) → (∀ s A u, Jx s A → Jx s (A.setCell ⟨gs, 0, none⟩ u)) →
    (∀ pre x W1, J pre W1 → pre.length < N → YieldAt F (n - 1) P l (encs x) W1 fun e W' =>
      (e = .returned (.bool true) ∧ J (pre ++ [x]) W' ∧ BandK lo hi W1 W') ∨ (e = .returned (.bool false) ∧ Jx (pre ++ [x]) W')) →
    J [] W →
    CallsIn F n P g (#[.func (.yield l) #[] #[]] ++ lb) W fun e W' => (∃ v, e = .returned v) ∧ ((∃ xs, S xs ∧ J xs W') ∨ (∃ pre, Sp pre ∧ Jx pre W'))
/-- How a round of mine ends: it goes on, or it returns; the loop's two blocks lie as they lay. -/
def rndPost {α : Type} (D lo hi : Nat) (I Ix : List α → World → Prop) (xs : List α) (W : World) : Exit → Act → World → Prop
  | .normal, _, W' => W'.heap[D]? = W.heap[D]? ∧ W'.heap[D + 1]? = W.heap[D + 1]? ∧ BandK lo hi W W' ∧ I xs W'
  | .ret, _, W' => W'.heap[D]? = W.heap[D]? ∧ W'.heap[D + 1]? = W.heap[D + 1]? ∧ Ix xs W'
  | _, _, _ => False
section
variable {F : Fence} {n : Nat} {P : Program}
theorem range_cell {α : Type} {g : Operand} {ps : Array Tmp} {assign body : Code} {Q : Exit → Act → World → Prop} {a : Act} {w : World}
    (hro : F.round = none) (h1 : 1 ≤ n) {gf : Nat} {lb : Array Value} (hg : a.eval g = .func (.func gf) #[] lb) (hFg : F.fn gf) (eg : ∀ args w, (callFunc gf args).run P w = .ok (.enter gf args) w)
    {encs : α → Array Value} {gs lo hi : Nat} (hgs : gs < w.heap.size) (hhi : hi ≤ w.heap.size) {S Sp : List α → Prop} {N : Nat} (hseq : SeqCell F (n - 1) P gf lb encs gs lo hi S Sp N w) (hps : ∀ x, (encs x).size = ps.size)
    (I Ix : List α → World → Prop) (hI : OwnFrom w.heap.size I) (hIx : OwnFrom w.heap.size Ix) (hIc : ∀ s A u, I s A → I s (A.setCell ⟨gs, 0, none⟩ u)) (hIxc : ∀ s A u, Ix s A → Ix s (A.setCell ⟨gs, 0, none⟩ u)) (h0 : I [] w) (a1 : α → Act)
    (hassign : ∀ (l : Nat) (x : α) (W : World) (K : Act → World → Prop), K (a1 x) W →
      assign.wpIn (F.inRound l) (n - 1 - 1) P (Exit.then K (fun _ _ _ => False)) { tmps := (ps.zip (encs x)).foldl (fun t (p, v) => t.setIfInBounds p v) a.tmps, defers := [] } W)
    (hbody : ∀ (l : Nat) (pre : List α) (x : α) (W : World), I pre W → w.heap.size + 1 < W.heap.size → pre.length < N → body.wpIn (F.inRound l) (n - 1 - 1) P (rndPost w.heap.size lo hi I Ix (pre ++ [x]) W) (a1 x) W)
    (hdone : ∀ (xs : List α) (W : World), S xs → I xs W → W.heap[w.heap.size]? = some (.deferred (some [])) → Q .normal { a with defers := { target := .collected w.heap.size, args := #[] } :: a.defers } W)
    (hstop : ∀ (pre : List α) (W : World), Sp pre → Ix pre W → W.heap[w.heap.size]? = some (.deferred (some [])) → Code.ret.wpIn F n P Q { a with defers := { target := .collected w.heap.size, args := #[] } :: a.defers } W) :
    (Code.rangeFunc g ps assign body).wpIn F n P Q a w := by
  refine wpIn_rangeFunc fun fn hfn => ?_
  have hD : w.heap.size + 2 = w.heap.size + 1 + 1 := rfl
  -- the loop's record, in its three states
  obtain ⟨rc, hrc⟩ : ∃ rc : LoopState → Option Code → Loop, ∀ st pe, rc st pe = { state := st, pending := pe, fn, tmps := a.tmps, params := ps, assign, body, defers := w.heap.size } := ⟨_, fun _ _ => rfl⟩
  have hen := run_enterLoop_outer (P := P) (w := w) fn a.tmps ps assign body
  rw [← hrc .ready none] at hen
  obtain ⟨V, hV⟩ : ∃ V, (w.alloc (.deferred (some []))).alloc (.loop (rc .ready none)) = V := ⟨_, rfl⟩
  rw [hV] at hen
  have hVs : V.heap.size = w.heap.size + 2 := by rw [← hV]; simp
  have hVl : V.heap[w.heap.size + 1]? = some (.loop (rc .ready none)) := by
    have h := World.alloc_heap_new (w.alloc (.deferred (some []))) (.loop (rc .ready none))
    rw [World.size_alloc, hV] at h
    exact h
  have hVd : V.heap[w.heap.size]? = some (.deferred (some [])) := by
    rw [← hV]
    exact (Below.heap_alloc _ _ _ (by simp)).trans (World.alloc_heap_new w _)
  have hVb : ∀ k, k < w.heap.size → V.heap[k]? = w.heap[k]? := fun k hk => by
    rw [← hV]
    exact (Below.heap_alloc _ _ k (by simp; omega)).trans (Below.heap_alloc w _ k hk)
  have hVI : I [] V := by rw [← hV]; exact hI.alloc _ (hI.alloc _ h0)
  have hst : ∀ (A : World) (u : Value) (k : Nat), w.heap.size ≤ k → (A.setCell ⟨gs, 0, none⟩ u).heap[k]? = A.heap[k]? := fun A u k hk => Below.heap_setCell A ⟨gs, 0, none⟩ u k (by show k ≠ gs; omega)
  have hab : ∀ (I' : List α → World → Prop) (st : LoopState) (pe : Option Code), OwnFrom w.heap.size I' → AbidesFrom V.heap.size (fun s A => I' s A ∧ A.heap[w.heap.size + 1]? = some (.loop (rc st pe)) ∧ A.heap[w.heap.size]? = some (.deferred (some []))) := by
    intro I' st pe hI' s A B row hs hgr hrow
    have hlt1 : w.heap.size + 1 < A.heap.size := (Array.getElem?_eq_some_iff.1 hs.2.1).1
    refine ⟨hI' s A B row hs.1 hgr fun r e => ?_, (hgr.block _ hlt1 fun e => ?_).trans hs.2.1, (hgr.block _ (by omega) fun e => ?_).trans hs.2.2⟩
    · obtain ⟨hr, o, ho, hw⟩ := hrow r e
      exact ⟨by omega, o, ho, Obj.not_cells_of_walk hw⟩
    · have := (hrow _ e.symm).1
      omega
    · have := (hrow _ e.symm).1
      omega
  refine ⟨w.heap.size + 1, [{ target := .collected w.heap.size, args := #[] }], V, { target := .fn (.func gf) lb, args := #[.func (.yield (w.heap.size + 1)) #[] #[]] }, V, gf,
    #[.func (.yield (w.heap.size + 1)) #[] #[]] ++ lb, V, ?_, ?_, ?_, ?_, fun _ => h1, ?_⟩
  · rw [hro]; exact hen
  · simp only [resolve, hg]
    simp [go_sem]
  · intro f' hf'
    simp [Target.leads] at hf'
    subst hf'
    exact hFg
  · simp [invoke, go_sem, eg]
  refine (hseq (w.heap.size + 1) (fun s A => I s A ∧ A.heap[w.heap.size + 1]? = some (.loop (rc .ready none)) ∧ A.heap[w.heap.size]? = some (.deferred (some [])))
    (fun s A => Ix s A ∧ A.heap[w.heap.size + 1]? = some (.loop (rc .done (some .ret))) ∧ A.heap[w.heap.size]? = some (.deferred (some []))) V (by omega) hVb (hab I _ _ hI) (hab Ix _ _ hIx)
    (fun s A u h => ⟨hIc s A u h.1, (hst A u _ (by omega)).trans h.2.1, (hst A u _ (Nat.le_refl _)).trans h.2.2⟩)
    (fun s A u h => ⟨hIxc s A u h.1, (hst A u _ (by omega)).trans h.2.1, (hst A u _ (Nat.le_refl _)).trans h.2.2⟩) ?_ ⟨hVI, hVl, hVd⟩).mono ?_
  · -- a round
    rintro pre x A ⟨hi, hl, hd⟩ hlen
    have hAs : w.heap.size + 1 < A.heap.size := (Array.getElem?_eq_some_iff.1 hl).1
    have hy := run_yield (P := P) (args := encs x) hl (by rw [hrc]; exact hps x)
    rw [hrc] at hy
    refine ⟨fn, _, assign, body, hy, roundIn_of_wpIn hfn (hassign _ x A _ ⟨_, run_beginRound hl (by rw [hrc]), ?_⟩)⟩
    obtain ⟨bz, hbz⟩ : ∃ bz : Loop, { rc .ready none with state := .busy } = bz := ⟨_, rfl⟩
    rw [hbz]
    have hl2 : (A.putObj (w.heap.size + 1) (.loop bz)).heap[w.heap.size + 1]? = some (.loop bz) := World.putObj_heap_same hAs
    have hd2 : (A.putObj (w.heap.size + 1) (.loop bz)).heap[w.heap.size]? = some (.deferred (some [])) := (World.putObj_heap_other (by omega)).trans hd
    refine wpIn_mono (hbody _ pre x _ (hI.putObj _ hi (by omega) hl rfl) (by simpa using hAs) hlen) ?_
    have hfin : ∀ (B : World) (jump : Option Code), B.heap[w.heap.size + 1]? = some (.loop bz) →
        (Instr.endRound (w.heap.size + 1) jump).run P B = .ok (.bool jump.isNone) (B.putObj (w.heap.size + 1) (.loop (rc (if jump.isNone then .ready else .done) jump))) := fun B jump hB => by
      have h := run_endRound (P := P) jump hB
      rw [← hbz, hrc] at h
      rw [h, hrc]
    rintro e a3 B hp
    cases e with
    | normal =>
      obtain ⟨hB1, hB2, hB3, hB4⟩ := hp
      have hB5 := hB2.trans hl2
      have hBs : w.heap.size + 1 < B.heap.size := (Array.getElem?_eq_some_iff.1 hB5).1
      exact ⟨_, _, hfin B none hB5, .inl ⟨rfl, ⟨hI.putObj _ hB4 (by omega) hB5 rfl, World.putObj_heap_same hBs, (World.putObj_heap_other (by omega)).trans (hB1.trans hd2)⟩,
        ((BandK.putObj A _ _ (by omega)).trans hB3).trans (BandK.putObj B _ _ (by omega))⟩⟩
    | ret =>
      obtain ⟨hB1, hB2, hB4⟩ := hp
      have hB5 := hB2.trans hl2
      have hBs : w.heap.size + 1 < B.heap.size := (Array.getElem?_eq_some_iff.1 hB5).1
      exact ⟨_, _, hfin B (some .ret) hB5, .inr ⟨rfl, hIx.putObj _ hB4 (by omega) hB5 rfl, World.putObj_heap_same hBs, (World.putObj_heap_other (by omega)).trans (hB1.trans hd2)⟩⟩
    | exit id => exact hp.elim
    | goto t => exact hp.elim
    | panic ch => exact hp.elim
    | outgrown => exact hp.elim
  · -- behind the iterator
    rintro e B ⟨⟨v, rfl⟩, (⟨xs, hS, hi, hl, hd⟩ | ⟨pre, hSp, hi, hl, hd⟩)⟩
    · have h := run_endLoop (P := P) hl (by rw [hrc]; simp)
      rw [hrc] at h
      exact ⟨none, _, h, hdone xs _ hS (hI.putObj _ hi (by omega) hl rfl) ((World.putObj_heap_other (by omega)).trans hd)⟩
    · have h := run_endLoop (P := P) hl (by rw [hrc]; simp)
      rw [hrc] at h
      exact ⟨some .ret, _, h, hstop pre _ hSp (hIx.putObj _ hi (by omega) hl rfl) ((World.putObj_heap_other (by omega)).trans hd)⟩
end
end Go.Proofs.YtfhaeplamahcpaaDoor
