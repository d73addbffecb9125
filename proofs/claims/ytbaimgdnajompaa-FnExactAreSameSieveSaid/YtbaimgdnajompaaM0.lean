import Derived.Test.YtbaimgdnajompaaB0
namespace Go.Proofs.Ytbaimgdnajompaa
open Go.RowKit
set_option linter.unusedVariables false
set_option linter.unusedSimpArgs false

/-- A slice of ints, read. -/
def ivL (xs : List Int) (k : Nat) : Int := xs.getD k 0
def Il (w : World) (A : Option Addr) (xs : List Int) : Prop :=
  0 < xs.length → ∃ b off, A = some ⟨b, off, none⟩ ∧ b < w.heap.size ∧ ∀ k, k < xs.length → w.cell? ⟨b, off + k, none⟩ = some (.int .i64 (ivL xs k))
theorem Il.below {w w' : World} {A : Option Addr} {xs : List Int} (h : Il w A xs) (hb : Below w.heap.size w w') : Il w' A xs := by
  intro hp
  obtain ⟨b, off, e, hlt, hr⟩ := h hp
  exact ⟨b, off, e, Nat.lt_of_lt_of_le hlt hb.size, fun k hk => (hb.cell (p := ⟨b, off + k, none⟩) hlt).trans (hr k hk)⟩
theorem Il_of_own {w : World} {B n c : Nat} {A : Option Addr} {xs : List Int} (h : OwnI w B (.slice A n c) xs) : Il w A xs := by
  intro hp
  obtain ⟨g, e, _, hg, _⟩ := h.cell hp
  refine ⟨g, 0, e, hg, fun k hk => ?_⟩
  obtain ⟨g', e', _, _, hc⟩ := h.cell hk
  rw [e] at e'
  injection e' with e'
  injection e' with e'
  subst e'
  simpa [ivL] using hc

set_option maxHeartbeats 800000 in
theorem eqIntS_yes (A B : Option Addr) (n m c d : Nat) (xs : List Int) (w : World) (hA : Il w A xs) (hB : Il w B xs) (hn : n = xs.length) (hm : m = xs.length) (hn1 : n ≤ 1048576) :
    Calls Try.prog 34 #[.slice A n c, .slice B m d] w fun en w' => en = .returned (.bool true) ∧ Below w.heap.size w w' := by
  have hnm : m = n := by rw [hn, hm]
  subst hnm
  have Hn := Lib.hid hn
  clear hn hm
  go_enter Try.func34, Try.ntmps34
  go_wp2
  go_loopw [5] (fun i wr => ∃ k : Nat, k ≤ m ∧ i = .int .i64 k ∧ Below w.heap.size w wr) (fun i _ => m - (intOf i).toNat)
  case atStart => exact ⟨0, Nat.zero_le _, rfl, Below.refl _ _⟩
  case round =>
    obtain ⟨k, hk, rfl, hbel⟩ := hrel
    by_cases hlt : k < m
    · have hlt1 : k < xs.length := by have := Hn.out; omega
      obtain ⟨b, off, rfl, hb, hr⟩ := hA (by omega)
      obtain ⟨b2, off2, rfl, hb2, hr2⟩ := hB (by omega)
      have hc0 := (hbel.cell (p := ⟨b, off + k, none⟩) hb).trans (hr k hlt1)
      have hd0 := (hbel.cell (p := ⟨b2, off2 + k, none⟩) hb2).trans (hr2 k hlt1)
      have hi1 : (k : Int) < (m : Int) := by omega
      have hne : (ivL xs k != ivL xs k) = false := by simp
      go_wp2_with fail
      go_quiet (fail)
      go_wp2
      go_roundw
      case rel => exact ⟨k + 1, by omega, by go_num, below_drewN hbel _⟩
      case measure => simp [intOf]; omega
    · go_wp2
      go_ret
      exact ⟨rfl, hbel⟩

/-- The row that v owns holds 1, 2, 3, .. . -/
def Marked (w : World) (B : Nat) (e : TypeId) (size : Nat) (v : Value) (n : Nat) : Prop :=
  ∃ cells, w.ownsRow B e size v n cells ∧ ∀ j, j < n * size → cells[j]? = some (.int .i64 (1 + (j : Int)))
theorem Marked.below {w w' : World} {B : Nat} {e : TypeId} {size : Nat} {v : Value} {n : Nat} (h : Marked w B e size v n) (hb : Below w.heap.size w w') : Marked w' B e size v n := by
  obtain ⟨cells, h1, h2⟩ := h
  exact ⟨cells, own_below h1 hb, h2⟩
theorem grown_trans {a b c : World} {row : Option Nat} (h : a.grownBy b row) (k : b.grownBy c row) : a.grownBy c row :=
  ⟨k.os.trans h.os, k.tape.trans h.tape, k.output.trans h.output, Nat.le_trans h.size k.size, fun i hi hn => (k.block i (Nat.lt_of_lt_of_le hi h.size) hn).trans (h.block i hi hn)⟩
/-- Where the row lies from B on, what lies below B is as it was. -/
theorem below_of_grown {w w' : World} {B : Nat} {row : Option Nat} (h : w.grownBy w' row) (hB : B ≤ w.heap.size) (hr : ∀ k, row = some k → B ≤ k) : Below B w w' :=
  (Below.refl B w).grown h hB hr
theorem own_form {w : World} {B : Nat} {e : TypeId} {size n c : Nat} {A : Option Addr} {xs : List Value} (h : w.ownsRow B e size (.slice A n c) n xs) (hp : 0 < n) : ∃ g, A = some ⟨g, 0, none⟩ ∧ B ≤ g ∧ g < w.heap.size := by
  rcases h.2 with ⟨_, h0⟩ | ⟨g, cap, cur, ev, hB, hg, _⟩
  · omega
  · simp only [Value.slice.injEq] at ev
    exact ⟨g, ev.1, hB, (Array.getElem?_eq_some_iff.1 hg).1⟩

set_option maxHeartbeats 800000 in
theorem markIntS_c (A : Option Addr) (B n c : Nat) (xs : List Value) (w : World) (h0 : w.ownsRow B 3 1 (.slice A n c) n xs) (hn1 : n ≤ 1048576) :
    Calls Try.prog 36 #[.slice A n c, .int .i64 1] w fun en w' => en = .returned (.int .i64 (1 + (n : Int))) ∧ Marked w' B 3 1 (.slice A n c) n ∧ w.grownBy w' (Value.ownBlock (.slice A n c)) := by
  go_enter Try.func36, Try.ntmps36
  go_wp2
  go_loopw [1, 5] (fun q i wr => ∃ k : Nat, k ≤ n ∧ i = .int .i64 k ∧ q = .int .i64 (1 + (k : Int)) ∧ (∃ ys, wr.ownsRow B 3 1 (.slice A n c) n ys ∧ ∀ j, j < k → ys[j]? = some (.int .i64 (1 + (j : Int)))) ∧ w.grownBy wr (Value.ownBlock (.slice A n c))) (fun _ i _ => n - (intOf i).toNat)
  case atStart => exact ⟨0, Nat.zero_le _, rfl, rfl, ⟨_, h0, by omega⟩, World.grownBy.refl _ _⟩
  case round =>
    obtain ⟨k, hk, rfl, rfl, ⟨ys, hown, hys⟩, hgr⟩ := hrel
    have Hown := Lib.hid hown
    have Hys := Lib.hid hys
    have Hgr := Lib.hid hgr
    clear hown hys hgr h0
    by_cases hlt : k < n
    · obtain ⟨g, rfl, hB, hg⟩ := own_form Hown.out (by omega)
      obtain ⟨x0, hx0, hf0⟩ := own_get Hown.out k (by omega)
      go_wp2
      go_roundw
      case rel =>
        have h1 := Hown.out.stored k (.int .i64 (1 + (k : Int)))
        have hl : ys.length = n * 1 := Hown.out.1
        refine ⟨k + 1, by omega, by go_num, by go_num, ⟨_, h1.1, fun j hj => ?_⟩, grown_trans Hgr.out h1.2⟩
        rcases Nat.lt_succ_iff_lt_or_eq.1 hj with h | h
        · rw [List.getElem?_set_ne (by omega)]; exact Hys.out j h
        · subst h; rw [List.getElem?_set_self (by omega)]
      case measure => simp [intOf]; omega
    · have hkn : n ≤ k := by omega
      go_wp2
      go_ret
      refine ⟨by rw [show (n : Int) = (k : Int) by omega]; rfl, ⟨ys, Hown.out, fun j hj => Hys.out j (by omega)⟩, Hgr.out⟩

set_option maxHeartbeats 800000 in
theorem heldIntS_c (A : Option Addr) (B n c : Nat) (w : World) (h0 : Marked w B 3 1 (.slice A n c) n) (hn1 : n ≤ 1048576) :
    Calls Try.prog 37 #[.slice A n c, .int .i64 1] w fun en w' => en = .returned (.int .i64 (1 + (n : Int))) ∧ w = w' := by
  obtain ⟨cells, hown, hc⟩ := h0
  have Hown := Lib.hid hown
  have Hc := Lib.hid hc
  clear hown hc
  go_enter Try.func37, Try.ntmps37
  go_wp2
  go_loop [1, 5] (fun q i => ∃ k : Nat, k ≤ n ∧ i = .int .i64 k ∧ q = .int .i64 (1 + (k : Int))) (fun _ i => n - (intOf i).toNat)
  case atStart => exact ⟨0, Nat.zero_le _, rfl, rfl⟩
  case round =>
    obtain ⟨k, hk, rfl, rfl⟩ := hrel
    by_cases hlt : k < n
    · obtain ⟨g, rfl, hB, hg⟩ := own_form Hown.out (by omega)
      have hx0 := (Hown.out.cellAt k (by omega)).trans (Hc.out k (by omega))
      have hne : ((1 + (k : Int)) != 1 + (k : Int)) = false := by simp
      go_wp2
      go_round
      case rel => exact ⟨k + 1, by omega, by go_num, by go_num⟩
      case measure => simp [intOf]; omega
    · have hkn : n ≤ k := by omega
      go_wp2
      go_ret
      exact ⟨by rw [show (n : Int) = (k : Int) by omega]; rfl, rfl⟩

set_option maxHeartbeats 800000 in
theorem markRuleS_c (A : Option Addr) (B n c : Nat) (xs : List Value) (w : World) (h0 : w.ownsRow B 25 2 (.slice A n c) n xs) (hn1 : n ≤ 1048576) :
    Calls Try.prog 35 #[.slice A n c, .int .i64 1] w fun en w' => en = .returned (.int .i64 (1 + 2 * (n : Int))) ∧ Marked w' B 25 2 (.slice A n c) n ∧ w.grownBy w' (Value.ownBlock (.slice A n c)) := by
  go_enter Try.func35, Try.ntmps35
  go_wp2
  go_loopw [1, 5] (fun q i wr => ∃ k : Nat, k ≤ n ∧ i = .int .i64 k ∧ q = .int .i64 (1 + 2 * (k : Int)) ∧ (∃ ys, wr.ownsRow B 25 2 (.slice A n c) n ys ∧ ∀ j, j < k * 2 → ys[j]? = some (.int .i64 (1 + (j : Int)))) ∧ w.grownBy wr (Value.ownBlock (.slice A n c))) (fun _ i _ => n - (intOf i).toNat)
  case atStart => exact ⟨0, Nat.zero_le _, rfl, rfl, ⟨_, h0, by omega⟩, World.grownBy.refl _ _⟩
  case round =>
    obtain ⟨k, hk, rfl, rfl, ⟨ys, hown, hys⟩, hgr⟩ := hrel
    have Hown := Lib.hid hown
    have Hys := Lib.hid hys
    have Hgr := Lib.hid hgr
    clear hown hys hgr h0
    by_cases hlt : k < n
    · obtain ⟨g, rfl, hB, hg⟩ := own_form Hown.out (by omega)
      obtain ⟨x0, hx0, hf0⟩ := own_get Hown.out (k * 2) (by omega)
      obtain ⟨x1, hx1, hf1⟩ := own_get Hown.out (k * 2 + 1) (by omega)
      go_wp2
      go_roundw
      case rel =>
        have h1 := Hown.out.stored (k * 2) (.int .i64 (1 + 2 * (k : Int)))
        have h2 := h1.1.stored (k * 2 + 1) (.int .i64 (1 + 2 * (k : Int) + 1))
        have hl : ys.length = n * 2 := Hown.out.1
        refine ⟨k + 1, by omega, by go_num, by go_num, ⟨_, h2.1, fun j hj => ?_⟩, grown_trans (grown_trans Hgr.out h1.2) h2.2⟩
        by_cases e1 : j = k * 2 + 1
        · subst e1; rw [List.getElem?_set_self (by rw [List.length_set]; omega)]; congr 2; omega
        · rw [List.getElem?_set_ne (by omega)]
          by_cases e2 : j = k * 2
          · subst e2; rw [List.getElem?_set_self (by omega)]; congr 2; omega
          · rw [List.getElem?_set_ne (by omega)]; exact Hys.out j (by omega)
      case measure => simp [intOf]; omega
    · have hkn : n ≤ k := by omega
      go_wp2
      go_ret
      refine ⟨by rw [show (n : Int) = (k : Int) by omega]; rfl, ⟨ys, Hown.out, fun j hj => Hys.out j (by omega)⟩, Hgr.out⟩

set_option maxHeartbeats 800000 in
theorem heldRuleS_c (A : Option Addr) (B n c : Nat) (w : World) (h0 : Marked w B 25 2 (.slice A n c) n) (hn1 : n ≤ 1048576) :
    Calls Try.prog 52 #[.slice A n c, .int .i64 1] w fun en w' => en = .returned (.int .i64 (1 + 2 * (n : Int))) ∧ w = w' := by
  obtain ⟨cells, hown, hc⟩ := h0
  have Hown := Lib.hid hown
  have Hc := Lib.hid hc
  clear hown hc
  go_enter Try.func52, Try.ntmps52
  go_wp2
  go_loop [1, 5] (fun q i => ∃ k : Nat, k ≤ n ∧ i = .int .i64 k ∧ q = .int .i64 (1 + 2 * (k : Int))) (fun _ i => n - (intOf i).toNat)
  case atStart => exact ⟨0, Nat.zero_le _, rfl, rfl⟩
  case round =>
    obtain ⟨k, hk, rfl, rfl⟩ := hrel
    by_cases hlt : k < n
    · obtain ⟨g, rfl, hB, hg⟩ := own_form Hown.out (by omega)
      have hx0 : w.cell? ⟨g, k * 2, none⟩ = some (.int .i64 (1 + 2 * (k : Int))) := (Hown.out.cellAt (k * 2) (by omega)).trans ((Hc.out (k * 2) (by omega)).trans (by congr 2; omega))
      have hx1 : w.cell? ⟨g, k * 2 + 1, none⟩ = some (.int .i64 (1 + 2 * (k : Int) + 1)) := (Hown.out.cellAt (k * 2 + 1) (by omega)).trans ((Hc.out (k * 2 + 1) (by omega)).trans (by congr 2; omega))
      have hne : ((1 + 2 * (k : Int)) != 1 + 2 * (k : Int)) = false := by simp
      have hne1 : ((1 + 2 * (k : Int) + 1) != 1 + 2 * (k : Int) + 1) = false := by simp
      go_wp2
      go_round
      case rel => exact ⟨k + 1, by omega, by go_num, by go_num⟩
      case measure => simp [intOf]; omega
    · have hkn : n ≤ k := by omega
      go_wp2
      go_ret
      exact ⟨by rw [show (n : Int) = (k : Int) by omega]; rfl, rfl⟩
/-- What is owned is kept where another row is written. -/
theorem OwnI.kept {w w' : World} {B g : Nat} {v : Value} {xs : List Int} (h : OwnI w B v xs) (hg : w.grownBy w' (some g)) (hB : g < B) : OwnI w' B v xs :=
  World.ownsRow.kept h hg (by
    cases hv : v.ownBlock with
    | none => exact .inl rfl
    | some k => exact .inr fun e => by injection e with e; have := (World.ownsRow.lt h k hv).1; omega)
theorem OwnR.kept {w w' : World} {B g : Nat} {v : Value} {xs : List (Int × Int)} (h : OwnR w B v xs) (hg : w.grownBy w' (some g)) (hB : g < B) : OwnR w' B v xs :=
  World.ownsRow.kept h hg (by
    cases hv : v.ownBlock with
    | none => exact .inl rfl
    | some k => exact .inr fun e => by injection e with e; have := (World.ownsRow.lt h k hv).1; omega)
theorem OwnR.own_n {w : World} {B n : Nat} {v : Value} {rs : List (Int × Int)} (h : OwnR w B v rs) (hn : n = rs.length) : w.ownsRow B 25 2 v n (cellsR rs) := by subst hn; exact h
theorem OwnR.shape {w : World} {B : Nat} {v : Value} {xs : List (Int × Int)} (h : OwnR w B v xs) : ∃ A c, v = .slice A xs.length c := by
  rcases h.2 with ⟨e, h0⟩ | ⟨g, cap, cur, e, _⟩
  · exact ⟨none, 0, by rw [e, h0]⟩
  · exact ⟨_, _, e⟩
theorem Rl_of_own' {w : World} {B c : Nat} {A : Option Addr} {rs : List (Int × Int)} (h : OwnR w B (.slice A rs.length c) rs) : Rl w A rs := Rl_of_own h rfl

end Go.Proofs.Ytbaimgdnajompaa
