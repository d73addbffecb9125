import Derived.Test.YtaapfapejekkfaaA5
import Derived.Test.YtaapfapejekkfaaE1
import Derived.ProofKit
import Derived.OpenShut
import Derived.ShutString
import Derived.ChangeOld
import Derived.Deep.SlicePairs
import Derived.Deep.Fields
import Derived.Lib.SmallJoins
namespace Go.Proofs.Ytaapfapejekkfaa
open Go.ChangeShapes Go.WideShapes Go.ChangeAt Go.RowKit Go.Deep
set_option maxRecDepth 100000
set_option linter.unusedVariables false
set_option linter.unusedSimpArgs false



section
variable {H : Type} {enc : TypeId × Value → H} {W : World} {base b0 : Nat} {r : Reach} {spare : Nat → Bool} {held : Bool}


/-- An argument of type []laws.Rule reads as rules. -/
theorem open_rules {v : Value} {d : DataW H} {p : List MemPlace} (hval : Value.okWide Try.prog W r b0 29 v) (h : DataW.Trod enc Try.prog W base spare held 29 v d p) :
    ∃ A n c rs, v = .slice A n c ∧ n = rs.length ∧ n ≤ 9223372036854775807 ∧ Rl W A rs := by
  obtain ⟨a0, len, cap, rfl⟩ := okWide_slice Try.underlying29 hval
  obtain ⟨fuel, hf⟩ := h
  rcases open_slice_pairs Try.underlying29 Try.underlying176 (by kernel_rfl) rfl rfl (by kernel_rfl) (by kernel_rfl) hf with ⟨hcs, _⟩ | ⟨a, l, c, m, n, V0, V1, D0, D1, P0, P1, hcs, _, hl, hm, hmm, _, hx⟩
  · simp [Value.cells] at hcs
    obtain ⟨rfl, rfl, rfl⟩ := hcs
    exact ⟨none, 0, 0, [], rfl, rfl, by omega, fun h => by simp at h⟩
  · simp [Value.cells] at hcs
    obtain ⟨rfl, rfl, rfl⟩ := hcs
    have hlm : len ≤ m := by rw [hmm]; split <;> omega
    have hm' : len ≤ 9223372036854775807 := by unfold maxLen at hm; omega
    have key : ∀ i, i < m → ∃ e q : Int, V0 i = .int .i64 e ∧ V1 i = .int .i64 q := by
      intro i hi
      obtain ⟨_, _, t0, t1⟩ := hx i hi
      obtain ⟨e, e0, _, _⟩ := DataW.trod_int Try.underlying3 t0
      obtain ⟨q, e1, _, _⟩ := DataW.trod_int Try.underlying3 t1
      exact ⟨e, q, by simpa using e0, by simpa using e1⟩
    let f : Nat → Int × Int := fun i => ((match V0 i with | .int _ q => q | _ => 0), (match V1 i with | .int _ q => q | _ => 0))
    refine ⟨some a, len, cap, (List.range len).map f, rfl, by simp, hm', fun hp => ?_⟩
    have hlen : 0 < len := by simpa using hp
    obtain ⟨c0, _, _, _⟩ := hx 0 (by omega)
    obtain ⟨b, off, rfl⟩ := addr_plain (by simpa using c0)
    refine ⟨b, off, rfl, World.block_lt_of_cell? W _ (by simpa [add_plain] using c0), fun k hk => ?_⟩
    have hk' : k < len := by simpa using hk
    obtain ⟨e, q, h0, h1⟩ := key k (by omega)
    obtain ⟨g0, g1, _, _⟩ := hx k (by omega)
    rw [add_plain] at g0 g1
    have hf1 : evL ((List.range len).map f) k = e := by simp [evL, hk', f, h0]
    have hf2 : reL ((List.range len).map f) k = q := by simp [reL, hk', f, h1]
    rw [hf1, hf2]
    exact ⟨by rw [g0, h0], by rw [← Nat.add_assoc] at g1; rw [g1, h1]⟩

theorem Rl.below {w w' : World} {A : Option Addr} {rs : List (Int × Int)} (h : Rl w A rs) (hb : Below w.heap.size w w') : Rl w' A rs := by
  intro hp
  obtain ⟨b, off, e, hlt, hr⟩ := h hp
  refine ⟨b, off, e, Nat.lt_of_lt_of_le hlt hb.size, fun k hk => ?_⟩
  exact ⟨(hb.cell (p := ⟨b, off + k * 2, none⟩) hlt).trans (hr k hk).1, (hb.cell (p := ⟨b, off + k * 2 + 1, none⟩) hlt).trans (hr k hk).2⟩

theorem Rl_of_own {w : World} {B : Nat} {A : Option Addr} {n c : Nat} {rs : List (Int × Int)} (h : OwnR w B (.slice A n c) rs) (hn : n = rs.length) : Rl w A rs := by
  subst hn
  intro hp
  rcases h.2 with ⟨_, h0⟩ | ⟨g, cap, cur, hv, _, hg, _⟩
  · omega
  · simp only [Value.slice.injEq] at hv
    obtain ⟨rfl, _, rfl⟩ := hv
    refine ⟨g, 0, rfl, (Array.getElem?_eq_some_iff.1 hg).1, fun k hk => ?_⟩
    have h1 := World.ownsRow.cellAt h (k * 2) (by omega)
    have h2 := World.ownsRow.cellAt h (k * 2 + 1) (by omega)
    have hc := cellsR_get rs k hk
    simp only [Nat.zero_add]
    exact ⟨h1.trans hc.1, h2.trans hc.2⟩
end

theorem eqRuleS_yes (A B : Option Addr) (n m c d : Nat) (rs : List (Int × Int)) (w : World) (hA : Rl w A rs) (hB : Rl w B rs) (hn : n = rs.length) (hm : m = rs.length) (hn1 : n ≤ 1048576) (hm1 : m ≤ 1048576) :
    Calls Try.prog 173 #[.slice A n c, .slice B m d] w fun en w' => en = .returned (.bool true) ∧ Below w.heap.size w w' := by
  have h := eqRuleS_c A B n m c d rs rs w hA hB hn hm hn1 hm1
  rw [show eqL rs rs = true from decide_eq_true rfl] at h
  exact h

end Go.Proofs.Ytaapfapejekkfaa
