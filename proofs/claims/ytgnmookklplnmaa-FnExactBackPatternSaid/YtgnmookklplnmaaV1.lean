import Derived.Test.YtgnmookklplnmaaV0
import Derived.Test.YtgnmookklplnmaaA8
import Derived.Test.YtgnmookklplnmaaSh
namespace Go.Proofs.Ytgnmookklplnmaa
open Go.RowKit
set_option linter.unusedVariables false
set_option linter.unusedSimpArgs false

theorem hasR_iff {xs : List Int} {p r : Nat} : hasR xs p r = true ↔ ∃ k, k < xs.length ∧ ivL xs k % (p : Int) = (r : Int) := decide_eq_true_iff
theorem hasR_take {xs : List Int} {p r k : Nat} (hk : k < xs.length) : hasR (xs.take (k + 1)) p r = (hasR (xs.take k) p r || decide (ivL xs k % (p : Int) = (r : Int))) := by
  rw [Bool.eq_iff_iff, Bool.or_eq_true, hasR_iff, hasR_iff, decide_eq_true_eq, List.length_take, List.length_take]
  constructor
  · rintro ⟨j, h1, h2⟩
    rw [ivL_take (by omega)] at h2
    by_cases hj : j = k
    · subst hj; exact .inr h2
    · exact .inl ⟨j, by omega, by rw [ivL_take (by omega)]; exact h2⟩
  · rintro (⟨j, h1, h2⟩ | h)
    · rw [ivL_take (by omega)] at h2
      exact ⟨j, by omega, by rw [ivL_take (by omega)]; exact h2⟩
    · exact ⟨k, by omega, by rw [ivL_take (by omega)]; exact h⟩

theorem zero13_get : ∀ r, r < 13 → (#[.bool false, .bool false, .bool false, .bool false, .bool false, .bool false, .bool false, .bool false, .bool false, .bool false, .bool false, .bool false, .bool false] : Array Value)[r]? = some (.bool false) := by
  intro r hr
  match r, hr with
  | 0, _ => rfl
  | 1, _ => rfl
  | 2, _ => rfl
  | 3, _ => rfl
  | 4, _ => rfl
  | 5, _ => rfl
  | 6, _ => rfl
  | 7, _ => rfl
  | 8, _ => rfl
  | 9, _ => rfl
  | 10, _ => rfl
  | 11, _ => rfl
  | 12, _ => rfl
set_option maxRecDepth 100000 in
set_option maxHeartbeats 1600000 in
theorem restsOf_c (w : World) (A : Option Addr) (m c : Nat) (xs : List Int) (hA : Il w A xs) (hm : m = xs.length) (hn : m ≤ 1048576) (hx : ∀ k, k < xs.length → -1000000 ≤ ivL xs k ∧ ivL xs k ≤ 1000000) (p : Nat) (hp : 2 ≤ p) (hp2 : p ≤ 13) :
    Calls Try.prog 66 #[.slice A m c, .int .i64 (p : Int)] w fun en w' => (∃ v, en = .returned v ∧ OwnI w' w.heap.size v (rsA xs p)) ∧ Below w.heap.size w w' := by
  have Hm := Lib.hid hm
  have Hx := Lib.hid hx
  clear hm hx
  have hz0 : (w.alloc (.cells #[.bool false, .bool false, .bool false, .bool false, .bool false, .bool false, .bool false, .bool false, .bool false, .bool false, .bool false, .bool false, .bool false] 78)).heap[w.heap.size]? = some (.cells #[.bool false, .bool false, .bool false, .bool false, .bool false, .bool false, .bool false, .bool false, .bool false, .bool false, .bool false, .bool false, .bool false] 78 (0, 0)) := heap_alloc_new w _
  have Hz0 := Lib.hid hz0
  clear hz0
  go_enter Try.func66, Try.ntmps66
  go_wp2
  go_loopw [12] (fun i wr => ∃ k : Nat, k ≤ m ∧ i = .int .i64 (k : Int) ∧ (∃ cur : Array Value, wr.heap[w.heap.size]? = some (.cells cur 78 (0, 0)) ∧ cur.size = 13 ∧ ∀ r, r < 13 → cur[r]? = some (.bool (hasR (xs.take k) p r))) ∧ Below w.heap.size w wr) (fun i _ => m - (intOf i).toNat)
  case atStart => exact ⟨0, Nat.zero_le _, rfl, ⟨_, Hz0.out, rfl, fun r hr => by rw [zero13_get r hr, hasR_no (fun k hk => by simp at hk)]⟩, (Below.refl _ _).alloc (Nat.le_refl _) _⟩
  case round =>
    obtain ⟨k, hk, rfl, ⟨cur, hc, hcs, hcur⟩, hbel⟩ := hrel
    have Hc := Lib.hid hc
    have Hcur := Lib.hid hcur
    have Hcs := Lib.hid hcs
    have hsz : w.heap.size < wr.heap.size := (Array.getElem?_eq_some_iff.1 hc).1
    clear hc hcur hcs
    by_cases hlt : k < m
    · obtain ⟨b, off, rfl, hb, hr⟩ := hA (by have := Hm.out; omega)
      have hck := (hbel.cell (p := ⟨b, off + k, none⟩) hb).trans (hr k (by have := Hm.out; omega))
      have hx0 := Hx.out k (by have := Hm.out; omega)
      have Hnx := Lib.hid (fun r => hasR_take (p := p) (r := r) (xs := xs) (k := k) (by have := Hm.out; omega))
      obtain ⟨x, hxe⟩ : ∃ x, ivL xs k = x := ⟨_, rfl⟩
      rw [hxe] at hck hx0 Hnx
      clear hr hxe
      have q0 := restF_lo x (p : Int) (by omega)
      have q1 := restF_hi x (p : Int) (by omega)
      obtain ⟨q, hq⟩ := Int.eq_ofNat_of_zero_le q0
      have hq2 : x % (p : Int) = (q : Int) := hq
      rw [hq] at q1
      have Hq := Lib.hid hq
      have Hq2 := Lib.hid hq2
      clear hq hq2 q0
      have hin : (cur[q]?).isSome = true := by rw [Array.getElem?_eq_getElem (by rw [Hcs.out]; omega)]; rfl
      obtain ⟨z0, hz0⟩ := Option.isSome_iff_exists.1 hin
      have hy0 := (cell_of_row wr w.heap.size q cur _ _ Hc.out).trans hz0
      have hy1 := frozen_of_row wr w.heap.size q cur _ Hc.out
      have hq13 : (q : Int) < 13 := by omega
      clear hin hz0
      go_wp2_with fail
      refine (restOf_c _ _ _ (by omega) (by omega) (by omega) (by omega)).mono ?_
      rw [Hq.out]
      rintro e w' ⟨rfl, rfl⟩
      go_wp2
      go_roundw
      case rel =>
        refine ⟨k + 1, by omega, by go_num, ⟨_, heap_setCell_same _ _ _ _ _ _ Hc.out, by simpa using Hcs.out, fun r hr => ?_⟩, hbel.setCell (Nat.le_refl _) _⟩
        rw [Hnx.out r, Hq2.out]
        by_cases hrq : r = q
        · subst hrq
          rw [Array.getElem?_setIfInBounds_self_of_lt (by rw [Hcs.out]; omega)]
          simp
        · rw [Array.getElem?_setIfInBounds_ne (by omega), Hcur.out r hr, decide_eq_false (by omega), Bool.or_false]
      case measure => simp [intOf]; omega
    · have hkm : k = m := by omega
      have Hall := Lib.hid (fun r (hr : r < 13) => show wr.cell? ⟨w.heap.size, r, none⟩ = some (.bool (hasR xs p r)) by
        rw [cell_of_row wr w.heap.size r cur _ _ Hc.out, Hcur.out r hr, hkm, Hm.out, List.take_length])
      clear Hc Hcur Hcs hkm
      rename World => wq
      have hs := hbel.size
      go_wp2
      go_loopw [8, 22] (fun v i wr => ∃ r : Nat, r ≤ p ∧ i = .int .i64 (r : Int) ∧ OwnI wr wq.heap.size v (rsF xs p r) ∧ Below wq.heap.size wq wr) (fun _ i _ => p - (intOf i).toNat)
      case atStart => exact ⟨0, Nat.zero_le _, rfl, OwnI.nil _ _, Below.refl _ _⟩
      case round =>
        obtain ⟨r, hr, rfl, hown, hbel2⟩ := hrel
        have Hown := Lib.hid hown
        have Hl := Lib.hid (rsF_len xs p r)
        have hs2 := hbel2.size
        clear hown
        by_cases hltr : r < p
        · have hcr := (hbel2.cell (p := ⟨w.heap.size, r, none⟩) hsz).trans (Hall.out r (by omega))
          cases hh : hasR xs p r with
          | true =>
            have Hy := Lib.hid (rsF_yes hh)
            rw [hh] at hcr
            clear hh
            go_wp2_with (at_builtin; refine wp_app_int _ rfl _ _ rfl wq.heap.size _ _ rfl Hown.out _ rfl (by have := Hl.out; omega) hs2 ?_; intro v' w4 hown4 b4)
            go_roundw
            case rel => exact ⟨r + 1, by omega, by go_num, by rw [Hy.out]; exact hown4, hbel2.trans b4⟩
            case measure => simp [intOf]; omega
          | false =>
            have Hy := Lib.hid (rsF_no hh)
            rw [hh] at hcr
            clear hh
            go_wp2
            go_roundw
            case rel => exact ⟨r + 1, by omega, by go_num, by rw [Hy.out]; exact Hown.out, hbel2⟩
            case measure => simp [intOf]; omega
        · have Hy : Hid (rsF xs p r = rsA xs p) := by show _ = _; rw [rsA, show r = p by omega]
          go_wp2
          go_ret
          exact ⟨⟨_, rfl, by rw [← Hy.out]; exact OwnI.mono Hown.out hs⟩, hbel.trans (hbel2.mono hs)⟩

end Go.Proofs.Ytgnmookklplnmaa
