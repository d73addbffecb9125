import Derived.Test.YtbgoimhgmgldpaaR3
namespace Go.Proofs.Ytbgoimhgmgldpaa
open Go.RowKit
set_option linter.unusedVariables false
set_option linter.unusedSimpArgs false

/-! A range over a text whose rounds lay memory: what is known of the iterator is its block alone. -/
def setIt (w : World) (g : Nat) (s : ByteArray) (p : Nat) : World := { w with heap := w.heap.setIfInBounds g (.stringIter s p) }
theorem setIt_at {w : World} {g : Nat} {s : ByteArray} {p q : Nat} (h : w.heap[g]? = some (.stringIter s q)) : (setIt w g s p).heap[g]? = some (.stringIter s p) := by
  have hg : g < w.heap.size := by
    rcases Nat.lt_or_ge g w.heap.size with h1 | h1
    · exact h1
    · rw [Array.getElem?_eq_none h1] at h; cases h
  simp [setIt, Array.getElem?_setIfInBounds, hg]
theorem setIt_size (w : World) (g : Nat) (s : ByteArray) (p : Nat) : (setIt w g s p).heap.size = w.heap.size := by simp [setIt]
theorem setIt_other (w : World) (g : Nat) (s : ByteArray) (p k : Nat) (h : k ≠ g) : (setIt w g s p).heap[k]? = w.heap[k]? := by
  simp [setIt, Array.getElem?_setIfInBounds, Ne.symm h]
theorem setIt_below {B g : Nat} {a w : World} (h : Below B a w) (hB : B ≤ g) (s : ByteArray) (p : Nat) : Below B a (setIt w g s p) :=
  ⟨h.os, h.tape, h.output, by rw [setIt_size]; exact h.size, fun k hk => by rw [setIt_other _ _ _ _ _ (by omega)]; exact h.block k hk⟩
theorem iter_lt {w : World} {g q : Nat} {s : ByteArray} (h : w.heap[g]? = some (.stringIter s q)) : g < w.heap.size := by
  rcases Nat.lt_or_ge g w.heap.size with h1 | h1
  · exact h1
  · rw [Array.getElem?_eq_none h1] at h; cases h
theorem iterPos_of {w : World} {g q : Nat} {s : ByteArray} (h : w.heap[g]? = some (.stringIter s q)) : w.iterPos g = q := by simp [World.iterPos, h]
theorem next_in {P : Program} {w : World} {g pos : Nat} {s : ByteArray} (hw : w.heap[g]? = some (.stringIter s pos)) (ty : TypeId) (h : pos < s.size) (ha : (s[pos]'h).toNat < 128) :
    (Instr.next (.pointer (some ⟨g, 0, none⟩)) true ty).run P w = .ok (.tuple #[.bool true, .int .i64 pos, .int .i32 (s[pos]'h).toNat]) (setIt w g s (pos + 1)) := by
  simp only [Instr.next, getObj, setObj, Sem.run_bind, Sem.run, hw, Result.andThen, h, if_true, decode_ascii s pos h ha, setIt]
  simp [goInt, Sem.run, hw]
theorem next_end {P : Program} {w : World} {g pos : Nat} {s : ByteArray} (hw : w.heap[g]? = some (.stringIter s pos)) (ty : TypeId) (h : ¬ pos < s.size) :
    (Instr.next (.pointer (some ⟨g, 0, none⟩)) true ty).run P w = .ok (.tuple #[.bool false]) w := by
  simp [Instr.next, getObj, Sem.run, hw, h]

/-- Whether rules cross out a number that is crossed out; all of them. -/
def pzcA (s : ByteArray) (rs : List (Int × Int)) (i : Nat) : Bool := !(byN s i == 120 && leftF rs ((i : Int) + 1))
def pzcB (s : ByteArray) (rs : List (Int × Int)) : Bool := (List.range s.size).all (pzcA s rs)
theorem pzcB_no {s : ByteArray} {rs : List (Int × Int)} {i : Nat} (hi : i < s.size) (h : pzcA s rs i = false) : pzcB s rs = false := by
  rw [pzcB, List.all_eq_false]
  exact ⟨i, List.mem_range.2 hi, by rw [h]; decide⟩
theorem pzcB_yes {s : ByteArray} {rs : List (Int × Int)} (h : ∀ i, i < s.size → pzcA s rs i = true) : pzcB s rs = true := by
  rw [pzcB, List.all_eq_true]
  exact fun i hi => h i (List.mem_range.1 hi)
set_option maxRecDepth 100000 in
set_option maxHeartbeats 800000 in
theorem pzCovers_c (w : World) (s : ByteArray) (A : Option Addr) (m c : Nat) (rs : List (Int × Int)) (hA : Rl w A rs) (hm : m = rs.length) (hg : goodL rs = true) (hp : patB s = true) :
    Calls Try.prog 71 #[.string s, .slice A m c] w fun en w' => en = .returned (.bool (pzcB s rs)) ∧ Below w.heap.size w w' := by
  obtain ⟨p1, p2, p3⟩ := patB_parts hp
  obtain ⟨T, hT⟩ : ∃ T, pzcB s rs = T := ⟨_, rfl⟩
  rw [hT]
  have Hyes := Lib.hid (fun h => hT.symm.trans (pzcB_yes h))
  have Hno := Lib.hid (fun i (hi : i < s.size) h => hT.symm.trans (pzcB_no hi h))
  have Hp3 := Lib.hid p3
  have HA := Lib.hid hA
  have Hm := Lib.hid hm
  have Hg := Lib.hid hg
  clear hT p3 hp hA hm hg
  go_enter Try.func71, Try.ntmps71
  go_wp2
  go_loopw [5] (fun _ wr => ∃ (k : Nat), wr.heap[w.heap.size]? = some (.stringIter s k) ∧ Below w.heap.size w wr ∧ k ≤ s.size ∧ ∀ j, j < k → pzcA s rs j = true) (fun _ wr => s.size - wr.iterPos w.heap.size)
  case atStart => exact ⟨0, World.iter_heap w s 0, (Below.refl _ _).alloc (Nat.le_refl _) _, Nat.zero_le _, fun j h => by omega⟩
  case round =>
    obtain ⟨k, hit, hB, hk, hall⟩ := hrel
    have Hall := Lib.hid hall
    have hm0 := iterPos_of hit
    have Hm0 := Lib.hid hm0
    clear hall hm0
    by_cases hlt : k < s.size
    · have hby := byN_at hlt
      have hsg := sgB_iff.1 (Hp3.out k hlt)
      obtain ⟨b, hb⟩ : ∃ b, byN s k = b := ⟨_, rfl⟩
      rw [hb] at hby hsg
      have hki : (k : Int) < (s.size : Int) := by omega
      have hk0 : (0 : Int) ≤ (k : Int) := Int.natCast_nonneg k
      have hnx : ∀ ty, (Instr.next (.pointer (some ⟨w.heap.size, 0, none⟩)) true ty).run Try.prog wr = .ok (.tuple #[.bool true, .int .i64 (k : Int), .int .i32 ((s[k]'hlt).toNat : Int)]) (setIt wr w.heap.size s (k + 1)) := fun ty => next_in hit ty hlt (by omega)
      have hit2 : (setIt wr w.heap.size s (k + 1)).heap[w.heap.size]? = some (.stringIter s (k + 1)) := setIt_at hit
      have hB2 := setIt_below hB (Nat.le_refl _) s (k + 1)
      have hfit : pzcA s rs k = !(b == 120 && leftF rs ((k : Int) + 1)) := by rw [pzcA, hb]
      obtain ⟨V, hV⟩ : ∃ V, setIt wr w.heap.size s (k + 1) = V := ⟨_, rfl⟩
      rw [hV] at hnx hit2 hB2
      have Hlt := Lib.hid (iter_lt hit2)
      have Hit2 := Lib.hid hit2
      have HB2 := Lib.hid hB2
      have hm1 := Lib.hid (iterPos_of hit2)
      clear hV hb hit hB hit2 hB2
      by_cases h1 : b = 120
      · subst h1
        have Hc := Lib.hid (siLeft_c A c m rs ((k : Int) + 1) V (HA.out.below HB2.out) Hm.out Hg.out (by omega) (by omega))
        have hw : IntKind.i64.wrap ((k : Int) + 1) = (k : Int) + 1 := IntWalk.i64_in _ (by omega)
        cases hl : leftF rs ((k : Int) + 1) with
        | true =>
          rw [hl] at hfit Hc
          have Hy := Lib.hid (Hno.out k hlt hfit)
          clear hfit hl hsg
          go_wp2_with fail
          refine Hc.out.mono ?_
          rintro e w5 ⟨rfl, b5⟩
          go_wp2
          go_ret
          exact ⟨by rw [Hy.out]; rfl, HB2.out.trans (b5.mono HB2.out.size)⟩
        | false =>
          rw [hl] at hfit Hc
          have Hf := Lib.hid hfit
          clear hfit hl hsg
          go_wp2_with fail
          refine Hc.out.mono ?_
          rintro e w5 ⟨rfl, b5⟩
          have hit5 := (b5.block w.heap.size Hlt.out).trans Hit2.out
          go_wp2
          go_roundw
          case rel =>
            exact ⟨k + 1, hit5, HB2.out.trans (b5.mono HB2.out.size), by omega, fun j hj => by
              rcases Nat.lt_succ_iff_lt_or_eq.1 hj with h | h
              · exact Hall.out j h
              · rw [h]; exact Hf.out⟩
          case measure => rw [Hm0.out, iterPos_of hit5]; omega
      · have Hf : Hid (pzcA s rs k = true) := by show _ = _; rw [hfit, show (b == 120) = false from beq_eq_false_iff_ne.2 h1]; rfl
        have hbi : ((b : Int) == 120) = false := beq_eq_false_iff_ne.2 (by omega)
        clear hfit h1 hsg
        go_wp2
        go_roundw
        case rel =>
          exact ⟨k + 1, Hit2.out, HB2.out, by omega, fun j hj => by
            rcases Nat.lt_succ_iff_lt_or_eq.1 hj with h | h
            · exact Hall.out j h
            · rw [h]; exact Hf.out⟩
        case measure => rw [Hm0.out, iterPos_of Hit2.out]; omega
    · have Hy := Lib.hid (Hyes.out fun j hj => Hall.out j (by omega))
      have hnx : ∀ ty, (Instr.next (.pointer (some ⟨w.heap.size, 0, none⟩)) true ty).run Try.prog wr = .ok (.tuple #[.bool false]) wr := fun ty => next_end hit ty hlt
      have HB := Lib.hid hB
      clear hit hB
      go_wp2
      go_ret
      exact ⟨by rw [Hy.out]; rfl, HB.out⟩
end Go.Proofs.Ytbgoimhgmgldpaa
