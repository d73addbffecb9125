import Derived.Test.YtoapidcbmlnjcaaE1
import Derived.Conc.LeavingOf
namespace Go.Proofs.Ytoapidcbmlnjcaa
open Go.RowKit
set_option linter.unusedVariables false

/-- Who is alone at the return has none beside it that is not leaving. -/
theorem leaving_of_alone {P : Program} {last : Machine} {w : World} {t : Trace} (h : aloneAtReturn P last w t) : leavingAtReturn P last w t := by
  refine ⟨h.2.1, ⟨fun g hg => ⟨0, ?_⟩, h.1.2⟩, h.2.2⟩
  have h1 := h.1.1
  unfold Machine.othersDone at h1
  have h2 := List.all_eq_true.1 h1 g hg
  exact eq_of_beq h2
theorem leaving_of_handed {a : Assume} {C : Checked} {os : Os} {f : FuncId} {r : Reach} {Pre : World → Array Value → Prop} {Post : World → Array Value → Value → World → Prop}
    (h : ReturnsInHanded a C os f r Pre Post) : ReturnsInLeavingWide a C os f r Pre Post := fun e =>
  ReturnsInOpen.mono (fun _ _ _ x => leaving_of_alone x) (fun _ x => x) (h e)

end Go.Proofs.Ytoapidcbmlnjcaa
