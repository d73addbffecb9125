import Derived.Test.YtjoklbkbggdlgaaE1
namespace Go.Proofs.Ytjoklbkbggdlgaa
open Go.RowKit
set_option linter.unusedVariables false

/-- A cut behind three pieces. -/
theorem cut3_k {P : Program} {Q : Exit → Act → World → Prop} {x1 x2 x3 z : Code} {K : Act → World → Prop} {G : Prop}
    (hK : ∀ a w, (x1.seq (x2.seq (x3.seq z))).wp P Q a w → K a w) (R : Act → World → Prop)
    (main : (∀ a w, (∀ K3 : Act → World → Prop, (∀ a w, R a w → K3 a w) → ∀ K2 : Act → World → Prop, (∀ a w, x3.wp P (Exit.then K3 Q) a w → K2 a w) → ∀ K1 : Act → World → Prop, (∀ a w, x2.wp P (Exit.then K2 Q) a w → K1 a w) → x1.wp P (Exit.then K1 Q) a w) → K a w) → G)
    (tail : ∀ a w, R a w → z.wp P Q a w) : G :=
  main fun a w h => hK a w (wp_seq (h _ tail _ (fun a w hx => wp_seq hx) _ (fun a w hx => wp_seq hx)))
/-- An act by its temporaries, one after the other, named by one function. -/
theorem arr_by (t : Array Value) (n : Nat) (hs : t.size = n) (f : Nat → Value) (hf : ∀ i, i < n → t.getD i undef = f i) : t = ((List.range n).map f).toArray := by
  apply Array.ext
  · simp [hs]
  · intro i h1 h2
    have := hf i (by omega)
    rw [Array.getD_eq_getD_getElem?, Array.getElem?_eq_getElem h1] at this
    simp only [Option.getD_some] at this
    rw [this]
    simp
theorem act_by (a : Act) (n : Nat) (hd : a.defers = []) (hs : a.tmps.size = n) (f : Nat → Value) (hf : ∀ i, i < n → a.tmps.getD i undef = f i) : a = ⟨((List.range n).map f).toArray, []⟩ := by
  cases a with
  | mk t d =>
    simp only at hd hs hf
    subst hd
    rw [arr_by t n hs f hf]

end Go.Proofs.Ytjoklbkbggdlgaa
