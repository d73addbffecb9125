import Derived.Test.YtaapfapejekkfaaP1
namespace Go.Proofs.Ytaapfapejekkfaa
open Go.RowKit
set_option linter.unusedVariables false
set_option linter.unusedSimpArgs false

def tabB (xs : List Int) : Bool := inB (xs.length : Int) 1 200 && allB xs (-1000000) 1000000
set_option maxRecDepth 100000 in
set_option maxHeartbeats 800000 in
theorem dvIs_c (w : World) (A : Option Addr) (m c : Nat) (xs : List Int) (hA : Il w A xs) (hm : m = xs.length) (hn : m ≤ 1048576) :
    Calls Try.prog 241 #[.slice A m c] w fun en w' => en = .returned (.bool (tabB xs)) ∧ w = w' := by
  have Hm := Lib.hid hm
  have HT : Hid (tabB xs = (inB (m : Int) 1 200 && allB xs (-1000000) 1000000)) := by show _ = _; rw [tabB, ← hm]
  clear hm
  rw [HT.out]
  cases h1 : inB (m : Int) 1 200 with
  | false =>
    have Hi := Lib.hid (fun W => h1 ▸ l1In_c (m : Int) 1 200 W)
    clear h1
    go_enter Try.func241, Try.ntmps241
    go_wp2_with fail
    refine (Hi.out _).mono ?_
    rintro e w1 ⟨rfl, rfl⟩
    go_wp2
    go_ret
    exact ⟨rfl, rfl⟩
  | true =>
    have Hi := Lib.hid (fun W => h1 ▸ l1In_c (m : Int) 1 200 W)
    clear h1
    cases h2 : allB xs (-1000000) 1000000 with
    | false =>
      have Ha := Lib.hid (h2 ▸ l1All_c w A m c xs hA Hm.out hn (-1000000) 1000000)
      clear h2
      go_enter Try.func241, Try.ntmps241
      go_wp2_with fail
      refine (Hi.out _).mono ?_
      rintro e w1 ⟨rfl, rfl⟩
      go_wp2_with fail
      refine (Ha.out).mono ?_
      rintro e w1 ⟨rfl, rfl⟩
      go_wp2
      go_ret
      exact ⟨rfl, rfl⟩
    | true =>
      have Ha := Lib.hid (h2 ▸ l1All_c w A m c xs hA Hm.out hn (-1000000) 1000000)
      clear h2
      go_enter Try.func241, Try.ntmps241
      go_wp2_with fail
      refine (Hi.out _).mono ?_
      rintro e w1 ⟨rfl, rfl⟩
      go_wp2_with fail
      refine (Ha.out).mono ?_
      rintro e w1 ⟨rfl, rfl⟩
      go_wp2
      go_ret
      exact ⟨rfl, rfl⟩

end Go.Proofs.Ytaapfapejekkfaa
