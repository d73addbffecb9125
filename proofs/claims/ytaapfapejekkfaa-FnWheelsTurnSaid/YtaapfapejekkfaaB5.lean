import Derived.Test.YtaapfapejekkfaaB4
import Derived.Test.YtaapfapejekkfaaM0
import Derived.Test.YtaapfapejekkfaaP7
import Derived.StillTailTactics
import Derived.Deep.RegionHeld3
import Derived.Deep.AppendLies
import Derived.IntWalk
namespace Go.Proofs.Ytaapfapejekkfaa
open Go.RowKit
set_option linter.unusedVariables false
set_option linter.unusedSimpArgs false

/-- The first k rules, each moved. -/
def movL (f : Int → Int → Int) (rs : List (Int × Int)) (k : Nat) : List (Int × Int) := (rs.take k).map fun r => (r.1, f r.1 r.2)
theorem movL_succ (f : Int → Int → Int) {rs : List (Int × Int)} {k : Nat} (h : k < rs.length) : movL f rs (k + 1) = movL f rs k ++ [(evL rs k, f (evL rs k) (reL rs k))] := by
  unfold movL
  rw [List.take_succ_eq_append_getElem h, List.map_append, evL_ext h]
  rfl
theorem movL_len (f : Int → Int → Int) (rs : List (Int × Int)) (k : Nat) : (movL f rs k).length ≤ rs.length := by
  unfold movL; rw [List.length_map, List.length_take]; omega
def movA (f : Int → Int → Int) (rs : List (Int × Int)) : List (Int × Int) := rs.map fun r => (r.1, f r.1 r.2)
theorem movL_all (f : Int → Int → Int) (rs : List (Int × Int)) : movL f rs rs.length = movA f rs := by unfold movL movA; rw [List.take_length]
theorem movA_len (f : Int → Int → Int) (rs : List (Int × Int)) : (movA f rs).length = rs.length := List.length_map _
theorem movA_get (f : Int → Int → Int) {rs : List (Int × Int)} {k : Nat} (h : k < rs.length) : evL (movA f rs) k = evL rs k ∧ reL (movA f rs) k = f (evL rs k) (reL rs k) := by
  simp [movA, evL, reL, h]

def fMove (by_ : Int) (e r : Int) : Int := restF (r + by_) e
def moveV (rs : List (Int × Int)) (n : Int) : List (Int × Int) := if okN rs n then movA (fMove n) rs else []
theorem moveV_no {rs : List (Int × Int)} {n : Int} (h : okN rs n = false) : moveV rs n = [] := by rw [moveV, h]; rfl
theorem moveV_yes {rs : List (Int × Int)} {n : Int} (h : okN rs n = true) : moveV rs n = movA (fMove n) rs := by rw [moveV, h]; rfl


def fMirror (e r : Int) : Int := restF (-r) e
def mirrorV (rs : List (Int × Int)) : List (Int × Int) := if goodL rs then movA fMirror rs else []
theorem mirrorV_no {rs : List (Int × Int)} (h : goodL rs = false) : mirrorV rs = [] := by rw [mirrorV, h]; rfl
theorem mirrorV_yes {rs : List (Int × Int)} (h : goodL rs = true) : mirrorV rs = movA fMirror rs := by rw [mirrorV, h]; rfl


end Go.Proofs.Ytaapfapejekkfaa
