import Derived.Test.YtjoklbkbggdlgaaE1
namespace Go.Proofs.Ytjoklbkbggdlgaa
open Go.RowKit
set_option linter.unusedVariables false

/-- A CUT: the walk of x1 and x2 ends in R, and what follows is walked once, from R on, however many ways lead there. -/
theorem cut_k {P : Program} {Q : Exit → Act → World → Prop} {x1 x2 z : Code} {K : Act → World → Prop} {G : Prop}
    (hK : ∀ a w, (x1.seq (x2.seq z)).wp P Q a w → K a w) (R : Act → World → Prop)
    (main : (∀ a w, (∀ K2 : Act → World → Prop, (∀ a w, R a w → K2 a w) → ∀ K1 : Act → World → Prop, (∀ a w, x2.wp P (Exit.then K2 Q) a w → K1 a w) → x1.wp P (Exit.then K1 Q) a w) → K a w) → G)
    (tail : ∀ a w, R a w → z.wp P Q a w) : G :=
  main fun a w h => hK a w (wp_seq (h _ tail _ fun a w hx => wp_seq hx))

end Go.Proofs.Ytjoklbkbggdlgaa
