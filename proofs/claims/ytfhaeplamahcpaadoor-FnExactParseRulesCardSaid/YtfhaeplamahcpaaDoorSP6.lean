import Derived.Test.YtfhaeplamahcpaaDoorSP5
import Derived.Test.YtfhaeplamahcpaaDoorSh
import Derived.Lib.IndexBytes
import Derived.Lib.CutLaws
import Derived.Shelf.Abstract
import Derived.OwnWalkIn
import Derived.TacticsInMore
import Derived.LoopNIn
import Derived.LoopIn
import Derived.IntWalk
import Derived.Laws.DeepStrings4
namespace Go.Proofs.YtfhaeplamahcpaaDoor
open Go.RowKit Go.Shelf
attribute [local go_sem] Oper.semAt_some
set_option linter.unusedVariables false
set_option linter.unusedSimpArgs false

/-- A piece of a text that is not too long. -/
abbrev Pc := { x : ByteArray // x.size ≤ 1048576 }
def pcB (x : Pc) : List UInt8 := x.1.data.toList
theorem sqL_miss {l : List UInt8} (h : Lib.index l [44] = -1) : ∀ f, sqL f l = [l]
  | 0 => rfl
  | f + 1 => by rw [sqL, if_pos h]
theorem idx_cases (c : ByteArray) : Lib.indexByte c.data.toList 44 = -1 ∨ ∃ i : Nat, Lib.indexByte c.data.toList 44 = (i : Int) ∧ i < c.size := by
  rcases Lib.indexB_cases c ⟨#[44]⟩ with h | ⟨i, h, hi⟩
  · exact .inl (by rw [← Lib.index_one]; exact h)
  · refine .inr ⟨i, by rw [← Lib.index_one]; exact h, ?_⟩
    have h1 : (⟨#[44]⟩ : ByteArray).size = 1 := rfl
    omega
theorem bytes_head (c : ByteArray) (i : Nat) : (c.extract 0 i).data.toList = c.data.toList.take i := by simp [ByteArray.data_extract]
theorem bytes_tail (c : ByteArray) (i : Nat) : (c.extract i c.size).data.toList = c.data.toList.drop i := by
  simp only [ByteArray.data_extract, Array.toList_extract, List.extract_eq_take_drop]
  rw [List.take_of_length_le (by rw [List.length_drop]; exact Nat.le_refl _)]
/-- How long the text is that lies in a box. -/
def txSz (w : World) (b : Nat) : Nat := match w.heap[b]? with
  | some (Obj.cells cs _ _) => (match cs[0]? with
    | some (Value.string c) => c.size
    | _ => 0)
  | _ => 0
theorem txSz_of {w : World} {b : Nat} {c : ByteArray} {t : TypeId} (h : w.heap[b]? = some (.cells #[.string c] t (0, 0))) : txSz w b = c.size := by simp [txSz, h]
theorem box_set {w : World} {b : Nat} {c : ByteArray} {t : TypeId} (h : w.heap[b]? = some (.cells #[.string c] t (0, 0))) (d : ByteArray) : (w.setCell ⟨b, 0, none⟩ (.string d)).heap[b]? = some (.cells #[.string d] t (0, 0)) := by
  exact heap_setCell_same w b 0 #[.string c] t (.string d) h
set_option maxRecDepth 100000 in
set_option maxHeartbeats 2000000 in
theorem spq_stops (n : Nat) (hn : 1 ≤ n) (b : Nat) (s : ByteArray) (hs : s.size ≤ 1048576) (w : World) (hb : b + 3 ≤ w.heap.size) (h0 : w.heap[b]? = some (.cells #[.string s] 9 (0, 0)))
    (h1 : w.heap[b + 1]? = some (.cells #[.string ⟨#[44]⟩] 9 (0, 0))) (h2 : w.heap[b + 2]? = some (.cells #[.int .i64 0] 3 (0, 0))) :
    SeqCell Fence.wide n Tryd.prog 34 #[.pointer (some ⟨b + 1, 0, none⟩), .pointer (some ⟨b, 0, none⟩), .pointer (some ⟨b + 2, 0, none⟩)] (fun x : Pc => #[.string x.1]) b b (b + 3)
      (fun xs => xs.map pcB = sqL s.size s.data.toList) (fun pre => ∃ rest, pre.map pcB ++ rest = sqL s.size s.data.toList) (s.size + 1) w := by
  intro l J Jx W hW hWk _ _ hJc hJxc hY hJ0
  have hlt : ∀ k, k < b + 3 → k < w.heap.size := fun k hk => by omega
  have g0 := (hWk b (by omega)).trans h0
  have g1 := (hWk (b + 1) (by omega)).trans h1
  have g2 := (hWk (b + 2) (by omega)).trans h2
  clear h0 h1 h2 hWk
  have HY := Lib.hid hY
  have HJc := Lib.hid hJc
  clear hY hJc
  refine callsIn_of_wp Tryd.func34 rfl trivial ?_ rfl
  simp only [Tryd.ntmps34, List.size_toArray, List.length_cons, List.length_nil, Nat.reduceAdd, Nat.reduceSub, Array.replicate_succ, Array.replicate_zero, List.push_toArray, List.append_toArray, List.nil_append, List.cons_append]
  have c1 : W.cell? ⟨b + 1, 0, none⟩ = some (.string ⟨#[44]⟩) := cell_of_row W (b + 1) 0 _ _ _ g1
  have hz : (⟨#[44]⟩ : ByteArray).size = 1 := rfl
  gi_wp2
  gi_loopw [7] (fun _ wr => ∃ (pre : List Pc) (c : ByteArray) (f : Nat), pre.map pcB ++ sqL f c.data.toList = sqL s.size s.data.toList ∧ c.size ≤ f ∧ pre.length + c.size ≤ s.size ∧
      wr.heap[b]? = some (.cells #[.string c] 9 (0, 0)) ∧ wr.heap[b + 1]? = some (.cells #[.string ⟨#[44]⟩] 9 (0, 0)) ∧ wr.heap[b + 2]? = some (.cells #[.int .i64 0] 3 (0, 0)) ∧ J pre wr)
    (fun _ wr => txSz wr b)
  case atStart => exact ⟨[], s, s.size, rfl, Nat.le_refl _, by simp, g0, g1, g2, hJ0⟩
  case round =>
    clear g0 g1 g2 c1 hJ0
    obtain ⟨pre, c, f, hsp, hcf, hlen, g0, g1, g2, hJ⟩ := hrel
    have c0 : wr.cell? ⟨b, 0, none⟩ = some (.string c) := cell_of_row wr b 0 _ _ _ g0
    have c1 : wr.cell? ⟨b + 1, 0, none⟩ = some (.string ⟨#[44]⟩) := cell_of_row wr (b + 1) 0 _ _ _ g1
    have c2 : wr.cell? ⟨b + 2, 0, none⟩ = some (.int .i64 0) := cell_of_row wr (b + 2) 0 _ _ _ g2
    have HI := Lib.hid (Tryd.strings_Index_one c 44 wr)
    rcases idx_cases c with hx | ⟨i, hx, hi⟩
    · rw [hx] at HI
      have hS : (pre ++ [(⟨c, by omega⟩ : Pc)]).map pcB = sqL s.size s.data.toList := by
        rw [← hsp, sqL_miss (by rw [Lib.index_one]; exact hx), List.map_append]
        rfl
      have HS := Lib.hid hS
      obtain ⟨fn, tmps, assign, body, hy, hR⟩ := HY.out pre ⟨c, by omega⟩ wr hJ (by omega)
      dsimp only at hy
      clear hx hsp g0 g1 g2 hS hJ
      gi_wp2_with (refine ⟨trivial, ?_⟩; gi_at_call 36; refine (callsIn_wide.2 HI.out).mono ?_; rintro e w5 ⟨rfl, rfl⟩)
      refine hR.mono ?_
      rintro e W3 (⟨rfl, hJ3, hk3⟩ | ⟨rfl, hJx3⟩)
      · gi_wp2
        go_end0
        exact ⟨⟨_, rfl⟩, .inl ⟨_, HS.out, hJ3⟩⟩
      · gi_wp2
        go_end0
        exact ⟨⟨_, rfl⟩, .inr ⟨_, ⟨[], by rw [List.append_nil]; exact HS.out⟩, hJx3⟩⟩
    · rw [hx] at HI
      obtain ⟨f, rfl⟩ : ∃ f', f = f' + 1 := ⟨f - 1, by omega⟩
      have hix : Lib.index c.data.toList [44] = (i : Int) := by rw [Lib.index_one]; exact hx
      have hsz1 : (c.extract 0 i).size = i := by rw [ByteArray.size_extract]; omega
      have hsz2 : (c.extract (i + 1) c.size).size = c.size - (i + 1) := by rw [ByteArray.size_extract]; omega
      have hpc : (c.extract 0 i).size ≤ 1048576 := by rw [hsz1]; clear hix hx; omega
      have hS : (pre ++ [(⟨c.extract 0 i, hpc⟩ : Pc)]).map pcB ++ sqL f (c.extract (i + 1) c.size).data.toList = sqL s.size s.data.toList := by
        rw [← hsp, sqL, hix, if_neg (by omega), Int.toNat_natCast, bytes_tail, List.map_append, List.append_assoc]
        show _ ++ ((c.extract 0 i).data.toList :: sqL f (c.data.toList.drop (i + 1))) = _
        rw [bytes_head]
      have HS := Lib.hid hS
      obtain ⟨fn, tmps, assign, body, hy, hR⟩ := HY.out pre ⟨c.extract 0 i, hpc⟩ wr hJ (by omega)
      dsimp only at hy
      have hi0 : (0 : Int) ≤ (i : Int) := Int.natCast_nonneg i
      have hi1 : (i : Int) ≤ (c.size : Int) := by omega
      have hi2 : (0 : Int) ≤ (i : Int) + 1 := by omega
      have hi3 : (i : Int) + 1 ≤ (c.size : Int) := by omega
      have hi4 : (i : Int) < (c.size : Int) := by omega
      have hw1 : IntKind.i64.wrap (i : Int) = (i : Int) := IntWalk.i64_in _ (by omega)
      have hw2 : IntKind.i64.wrap ((i : Int) + 1) = (i : Int) + 1 := IntWalk.i64_in _ (by omega)
      have ht1 : ((i : Int) + 1).toNat = i + 1 := by omega
      have Hm := Lib.hid (txSz_of g0)
      clear hx hix hsp hS hJ
      gi_wp2_with (refine ⟨trivial, ?_⟩; gi_at_call 36; refine (callsIn_wide.2 HI.out).mono ?_; rintro e w5 ⟨rfl, rfl⟩)
      refine hR.mono ?_
      rintro e W3 (⟨rfl, hJ3, hk3⟩ | ⟨rfl, hJx3⟩)
      · have k0 := (hk3.2 b (Nat.le_refl _) (by omega)).trans g0
        have k1 := (hk3.2 (b + 1) (by omega) (by omega)).trans g1
        have k2 := (hk3.2 (b + 2) (by omega) (by omega)).trans g2
        have d0 : W3.cell? ⟨b, 0, none⟩ = some (.string c) := cell_of_row W3 b 0 _ _ _ k0
        have d1 : W3.cell? ⟨b + 1, 0, none⟩ = some (.string ⟨#[44]⟩) := cell_of_row W3 (b + 1) 0 _ _ _ k1
        have d2 : W3.frozen? ⟨b, 0, none⟩ = false := frozen_of_row W3 b 0 _ _ k0
        have K0 := Lib.hid (box_set k0 (c.extract (i + 1) c.size))
        have K1 := Lib.hid ((Below.heap_setCell W3 ⟨b, 0, none⟩ (.string (c.extract (i + 1) c.size)) (b + 1) (by show b + 1 ≠ b; omega)).trans k1)
        have K2 := Lib.hid ((Below.heap_setCell W3 ⟨b, 0, none⟩ (.string (c.extract (i + 1) c.size)) (b + 2) (by show b + 2 ≠ b; omega)).trans k2)
        have HJ4 := Lib.hid (HJc.out _ _ (.string (c.extract (i + 1) c.size)) hJ3)
        clear k0 k1 k2 g0 g1 g2
        gi_wp2
        go_roundw
        case rel => exact ⟨_, _, f, HS.out, by omega, by rw [List.length_append, hsz2]; show _ + 1 + _ ≤ _; omega, K0.out, K1.out, K2.out, HJ4.out⟩
        case measure => rw [txSz_of K0.out, Hm.out, hsz2]; omega
      · gi_wp2
        refine bodyPost_ret (results_none rfl _ _ _) rfl ?_
        exact ⟨⟨_, rfl⟩, .inr ⟨_, ⟨_, HS.out⟩, hJx3⟩⟩
end Go.Proofs.YtfhaeplamahcpaaDoor
