import Derived.Test.YtfhaeplamahcpaaDoorSP3
import Derived.Test.YtfhaeplamahcpaaDoorSP2
import Derived.Test.YtfhaeplamahcpaaDoorD3
namespace Go.Proofs.YtfhaeplamahcpaaDoor
open Go.RowKit
set_option linter.unusedVariables false
set_option linter.unusedSimpArgs false

/-- What readRules reads. -/
def rdF (s : ByteArray) : Option (List (Int × Int)) := if s = ⟨#[45]⟩ then some [] else rdI s
theorem rdF_some {s : ByteArray} {rs : List (Int × Int)} (h : rdF s = some rs) : prB s = (goodL rs && decide (textF rs = s)) ∧ prL s = if goodL rs && decide (textF rs = s) then rs else [] := by
  by_cases hd : s = ⟨#[45]⟩
  · rw [rdF, if_pos hd] at h
    injection h with h
    subst h
    obtain ⟨h1, h2⟩ := pr_of (rs := []) (s := s) rfl (by rw [textF_nil, hd])
    rw [h1, h2, show goodL [] = true from rfl, decide_eq_true (show textF [] = s by rw [textF_nil, hd])]
    exact ⟨rfl, rfl⟩
  · rw [rdF, if_neg hd] at h
    exact pr_read hd h
theorem rdF_none {s : ByteArray} (h : rdF s = none) : prB s = false ∧ prL s = [] := by
  by_cases hd : s = ⟨#[45]⟩
  · rw [rdF, if_pos hd] at h; cases h
  · rw [rdF, if_neg hd] at h
    exact pr_none hd h
set_option maxRecDepth 100000 in
set_option maxHeartbeats 1200000 in
/-- What ParseRules answers where readRules keeps its contract. -/
theorem impl_ParseRules_of (w : World) (s : ByteArray)
    (hrd : Calls Tryd.prog 10 #[.string s] w fun en w' => (∃ v, en = .returned (.tuple #[v, .bool (rdF s).isSome]) ∧ OwnR w' w.heap.size v ((rdF s).getD [])) ∧ Below w.heap.size w w')
    (hlen : ∀ rs, rdF s = some rs → rs.length ≤ 1048576) :
    Calls Tryd.prog 5 #[.string s] w fun en w' => (∃ v, en = .returned (.tuple #[v, .bool (prB s)]) ∧ OwnR w' w.heap.size v (prL s)) ∧ Below w.heap.size w w' := by
  cases hr : rdF s with
  | none =>
    obtain ⟨h1, h2⟩ := rdF_none hr
    rw [h1, h2]
    rw [hr] at hrd
    have Hrd := Lib.hid hrd
    clear hrd hlen hr h1 h2
    go_enter Tryd.func5, Tryd.ntmps5
    go_wp2_with fail
    refine Hrd.out.mono ?_
    rintro e w2 ⟨⟨v, rfl, o2⟩, b2⟩
    go_wp2
    go_ret2
    exact ⟨⟨_, rfl, World.ownsRow_nil _ _ _ _⟩, b2⟩
  | some rs =>
    obtain ⟨h1, h2⟩ := rdF_some hr
    have hl := hlen rs hr
    rw [hr] at hrd
    have Hrd := Lib.hid (show Calls Tryd.prog 10 #[.string s] w fun en w' => (∃ v, en = .returned (.tuple #[v, .bool true]) ∧ OwnR w' w.heap.size v rs) ∧ Below w.heap.size w w' from hrd)
    have H1 := Lib.hid h1
    have H2 := Lib.hid h2
    obtain ⟨T, hT⟩ : ∃ T, prB s = T := ⟨_, rfl⟩
    obtain ⟨R, hR⟩ : ∃ R, prL s = R := ⟨_, rfl⟩
    rw [hT] at H1 ⊢
    rw [hR] at H2 ⊢
    clear hrd hlen hr h1 h2 hT hR
    have Htx := Lib.hid (fun W A m c hA hm hn => impl_RulesText_c W A m c rs hA hm hn)
    cases hg : goodL rs with
    | false =>
      rw [hg] at H1 H2
      rw [hg, textV_no hg] at Htx
      have HT : Hid (T = false) := H1.out
      have HR : Hid (R = []) := H2.out
      clear hg
      go_enter Tryd.func5, Tryd.ntmps5
      go_wp2_with fail
      refine Hrd.out.mono ?_
      rintro e w2 ⟨⟨v, rfl, o2⟩, b2⟩
      obtain ⟨A, c, rfl⟩ := OwnR.shape o2
      have O2 := Lib.hid (Rl_of_own o2 rfl)
      clear o2
      go_wp2_with fail
      refine (Htx.out w2 A rs.length c O2.out rfl hl).mono ?_
      rintro e w3 ⟨rfl, b3⟩
      go_wp2
      go_ret2
      exact ⟨⟨_, by rw [HT.out]; rfl, by rw [HR.out]; exact World.ownsRow_nil _ _ _ _⟩, b2.trans (b3.mono b2.size)⟩
    | true =>
      rw [hg] at H1 H2
      rw [hg, textV_yes hg] at Htx
      clear hg
      obtain ⟨t, ht⟩ : ∃ t, textF rs = t := ⟨_, rfl⟩
      rw [ht] at H1 H2 Htx
      clear ht
      by_cases hts : t = s
      · rw [decide_eq_true hts] at H1 H2
        have HT : Hid (T = true) := H1.out
        have HR : Hid (R = rs) := H2.out
        have htb : (t.toList == s.toList) = true := by rw [txtEq, decide_eq_true hts]
        clear hts
        go_enter Tryd.func5, Tryd.ntmps5
        go_wp2_with fail
        refine Hrd.out.mono ?_
        rintro e w2 ⟨⟨v, rfl, o2⟩, b2⟩
        obtain ⟨A, c, rfl⟩ := OwnR.shape o2
        have O2 := Lib.hid (Rl_of_own o2 rfl)
        have Own2 := Lib.hid o2
        clear o2
        go_wp2_with fail
        refine (Htx.out w2 A rs.length c O2.out rfl hl).mono ?_
        rintro e w3 ⟨rfl, b3⟩
        go_wp2
        go_ret2
        exact ⟨⟨.slice A rs.length c, by rw [HT.out]; rfl, by rw [HR.out]; exact OwnR.below Own2.out b3⟩, b2.trans (b3.mono b2.size)⟩
      · rw [decide_eq_false hts] at H1 H2
        have HT : Hid (T = false) := H1.out
        have HR : Hid (R = []) := H2.out
        have htb : (t.toList == s.toList) = false := by rw [txtEq, decide_eq_false hts]
        clear hts
        go_enter Tryd.func5, Tryd.ntmps5
        go_wp2_with fail
        refine Hrd.out.mono ?_
        rintro e w2 ⟨⟨v, rfl, o2⟩, b2⟩
        obtain ⟨A, c, rfl⟩ := OwnR.shape o2
        have O2 := Lib.hid (Rl_of_own o2 rfl)
        clear o2
        go_wp2_with fail
        refine (Htx.out w2 A rs.length c O2.out rfl hl).mono ?_
        rintro e w3 ⟨rfl, b3⟩
        go_wp2
        go_ret2
        exact ⟨⟨_, by rw [HT.out]; rfl, by rw [HR.out]; exact World.ownsRow_nil _ _ _ _⟩, b2.trans (b3.mono b2.size)⟩
end Go.Proofs.YtfhaeplamahcpaaDoor
