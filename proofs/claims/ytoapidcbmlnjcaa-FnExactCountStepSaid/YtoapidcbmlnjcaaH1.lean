import Derived.Test.YtoapidcbmlnjcaaE1
namespace Go.Proofs.Ytoapidcbmlnjcaa
open Go.RowKit
set_option linter.unusedVariables false
set_option linter.unusedSimpArgs false

/-- A slice of ints that is the front of a row that the call owns. -/
def HeadI (w : World) (B : Nat) (v : Value) (xs : List Int) : Prop :=
  ∃ A c C zs, v = .slice A xs.length c ∧ OwnI w B (.slice A (xs ++ zs).length C) (xs ++ zs)
theorem HeadI.of_own {w : World} {B : Nat} {v : Value} {xs : List Int} (h : OwnI w B v xs) : HeadI w B v xs := by
  obtain ⟨A, c, rfl⟩ := h.shape
  exact ⟨A, c, c, [], rfl, by simpa using h⟩
theorem HeadI.below {w w' : World} {B : Nat} {v : Value} {xs : List Int} (h : HeadI w B v xs) (hb : Below w.heap.size w w') : HeadI w' B v xs := by
  obtain ⟨A, c, C, zs, e, o⟩ := h
  exact ⟨A, c, C, zs, e, o.below hb⟩
theorem HeadI.mono {w : World} {B B' : Nat} {v : Value} {xs : List Int} (h : HeadI w B v xs) (hB : B' ≤ B) : HeadI w B' v xs := by
  obtain ⟨A, c, C, zs, e, o⟩ := h
  exact ⟨A, c, C, zs, e, o.mono hB⟩
theorem HeadI.nil (w : World) (B : Nat) : HeadI w B (.slice none 0 0) [] := HeadI.of_own (OwnI.nil _ _)
theorem HeadI.shape {w : World} {B : Nat} {v : Value} {xs : List Int} (h : HeadI w B v xs) : ∃ A c, v = .slice A xs.length c := by
  obtain ⟨A, c, C, zs, e, o⟩ := h
  exact ⟨A, c, e⟩
theorem HeadI.kept {w w' : World} {B g : Nat} {v : Value} {xs : List Int} (h : HeadI w B v xs) (hg : w.grownBy w' (some g)) (hB : g < B) : HeadI w' B v xs := by
  obtain ⟨A, c, C, zs, e, o⟩ := h
  exact ⟨A, c, C, zs, e, o.kept hg hB⟩
theorem HeadI.lt {w : World} {B : Nat} {v : Value} {xs : List Int} (h : HeadI w B v xs) : ∀ k, v.ownBlock = some k → B ≤ k ∧ k < w.heap.size := by
  obtain ⟨A, c, C, zs, rfl, o⟩ := h
  intro k hk
  exact World.ownsRow.lt o k (by cases A with | none => cases hk | some a => exact hk)
theorem Il_front {w : World} {A : Option Addr} {xs zs : List Int} (h : Il w A (xs ++ zs)) : Il w A xs := by
  intro hp
  obtain ⟨b, off, e, hb, hc⟩ := h (by simp; omega)
  refine ⟨b, off, e, hb, fun k hk => ?_⟩
  rw [hc k (by simp; omega)]
  simp [ivL, List.getElem?_append, hk]
theorem Il_of_head {w : World} {B n c : Nat} {A : Option Addr} {xs : List Int} (h : HeadI w B (.slice A n c) xs) : Il w A xs := by
  obtain ⟨A', c', C, zs, e, o⟩ := h
  injection e with e1 e2 e3
  subst e1
  exact Il_front (Il_of_own o)
theorem OwnI.setB {w : World} {B : Nat} {v : Value} {xs : List Int} (h : OwnI w B v xs) {a : Addr} (ha : a.block < B) (u : Value) : OwnI (w.setCell a u) B v xs := ownsRow_setCell_below h ha u
theorem HeadI.setB {w : World} {B : Nat} {v : Value} {xs : List Int} (h : HeadI w B v xs) {a : Addr} (ha : a.block < B) (u : Value) : HeadI (w.setCell a u) B v xs := by
  obtain ⟨A, c, C, zs, e, o⟩ := h
  exact ⟨A, c, C, zs, e, o.setB ha u⟩
/-- The front of the row holds 1, 2, 3, .. . -/
def HMarked (w : World) (B : Nat) (v : Value) (n : Nat) : Prop :=
  ∃ A c N C cells, v = .slice A n c ∧ n ≤ N ∧ w.ownsRow B 3 1 (.slice A N C) N cells ∧ ∀ j, j < n → cells[j]? = some (.int .i64 (1 + (j : Int)))
theorem HMarked.below {w w' : World} {B : Nat} {v : Value} {n : Nat} (h : HMarked w B v n) (hb : Below w.heap.size w w') : HMarked w' B v n := by
  obtain ⟨A, c, N, C, cells, h1, h2, h3, h4⟩ := h
  exact ⟨A, c, N, C, cells, h1, h2, own_below h3 hb, h4⟩

set_option maxHeartbeats 800000 in
theorem markHeadS_c (A : Option Addr) (B c : Nat) (xs : List Int) (w : World) (h0 : HeadI w B (.slice A xs.length c) xs) (hn1 : xs.length ≤ 1048576) :
    Calls Try.prog 28 #[.slice A xs.length c, .int .i64 1] w fun en w' => en = .returned (.int .i64 (1 + (xs.length : Int))) ∧ HMarked w' B (.slice A xs.length c) xs.length ∧ w.grownBy w' (Value.ownBlock (.slice A xs.length c)) := by
  obtain ⟨A', c', C, zs, e, o⟩ := h0
  injection e with e1 e2 e3
  subst e1
  obtain ⟨N, hN⟩ : ∃ N, (xs ++ zs).length = N := ⟨_, rfl⟩
  have o' : w.ownsRow B 3 1 (.slice A N C) N ((xs ++ zs).map (Value.int .i64)) := by rw [← hN]; exact o
  have hnN : xs.length ≤ N := by rw [← hN]; simp
  clear o hN
  generalize xs.length = n at *
  generalize (xs ++ zs).map (Value.int .i64) = cs at *
  have hob : Value.ownBlock (.slice A n c) = Value.ownBlock (.slice A N C) := by cases A <;> rfl
  rw [hob]
  clear hob e2 e3
  go_enter Try.func28, Try.ntmps28
  go_wp2
  go_loopw [1, 5] (fun q i wr => ∃ k : Nat, k ≤ n ∧ i = .int .i64 k ∧ q = .int .i64 (1 + (k : Int)) ∧ (∃ ys, wr.ownsRow B 3 1 (.slice A N C) N ys ∧ ∀ j, j < k → ys[j]? = some (.int .i64 (1 + (j : Int)))) ∧ w.grownBy wr (Value.ownBlock (.slice A N C))) (fun _ i _ => n - (intOf i).toNat)
  case atStart => exact ⟨0, Nat.zero_le _, rfl, rfl, ⟨_, o', by omega⟩, World.grownBy.refl _ _⟩
  case round =>
    obtain ⟨k, hk, rfl, rfl, ⟨ys, hown, hys⟩, hgr⟩ := hrel
    have Hown := Lib.hid hown
    have Hys := Lib.hid hys
    have Hgr := Lib.hid hgr
    clear hown hys hgr o'
    by_cases hlt : k < n
    · obtain ⟨g, rfl, hB, hg⟩ := own_form Hown.out (by omega)
      obtain ⟨x0, hx0, hf0⟩ := own_get Hown.out k (by omega)
      go_wp2
      go_roundw
      case rel =>
        have h1 := Hown.out.stored k (.int .i64 (1 + (k : Int)))
        have hl : ys.length = N * 1 := Hown.out.1
        refine ⟨k + 1, by omega, by go_num, by go_num, ⟨_, h1.1, fun j hj => ?_⟩, grown_trans Hgr.out h1.2⟩
        rcases Nat.lt_succ_iff_lt_or_eq.1 hj with h | h
        · rw [List.getElem?_set_ne (by omega)]; exact Hys.out j h
        · subst h; rw [List.getElem?_set_self (by omega)]
      case measure => simp [intOf]; omega
    · have hkn : n ≤ k := by omega
      go_wp2
      go_ret
      refine ⟨by rw [show (n : Int) = (k : Int) by omega]; rfl, ⟨A, c, N, C, ys, rfl, hnN, Hown.out, fun j hj => Hys.out j (by omega)⟩, Hgr.out⟩
set_option maxHeartbeats 800000 in
theorem heldHeadS_c (A : Option Addr) (B n c : Nat) (w : World) (h0 : HMarked w B (.slice A n c) n) (hn1 : n ≤ 1048576) :
    Calls Try.prog 29 #[.slice A n c, .int .i64 1] w fun en w' => en = .returned (.int .i64 (1 + (n : Int))) ∧ w = w' := by
  obtain ⟨A', c', N, C, cells, e, hnN, hown, hc⟩ := h0
  injection e with e1 e2 e3
  subst e1
  clear e2 e3
  have Hown := Lib.hid hown
  have Hc := Lib.hid hc
  clear hown hc
  go_enter Try.func29, Try.ntmps29
  go_wp2
  go_loop [1, 5] (fun q i => ∃ k : Nat, k ≤ n ∧ i = .int .i64 k ∧ q = .int .i64 (1 + (k : Int))) (fun _ i => n - (intOf i).toNat)
  case atStart => exact ⟨0, Nat.zero_le _, rfl, rfl⟩
  case round =>
    obtain ⟨k, hk, rfl, rfl⟩ := hrel
    by_cases hlt : k < n
    · obtain ⟨g, rfl, hB, hg⟩ := own_form Hown.out (by omega)
      have hx0 := (Hown.out.cellAt k (by omega)).trans (Hc.out k (by omega))
      have hne : ((1 + (k : Int)) != 1 + (k : Int)) = false := by simp
      go_wp2
      go_round
      case rel => exact ⟨k + 1, by omega, by go_num, by go_num⟩
      case measure => simp [intOf]; omega
    · have hkn : n ≤ k := by omega
      go_wp2
      go_ret
      exact ⟨by rw [show (n : Int) = (k : Int) by omega]; rfl, rfl⟩

end Go.Proofs.Ytoapidcbmlnjcaa
