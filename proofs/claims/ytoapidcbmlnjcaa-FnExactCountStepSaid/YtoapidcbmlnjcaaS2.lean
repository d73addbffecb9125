import Derived.Test.YtoapidcbmlnjcaaS1
namespace Go.Proofs.Ytoapidcbmlnjcaa
open Go.RowKit
set_option linter.unusedVariables false
set_option linter.unusedSimpArgs false

/-- How many of the first k numbers have p. -/
def cntP (xs : List Int) (p : Int → Bool) : Nat → Nat
  | 0 => 0
  | k + 1 => if p (ivL xs k) then cntP xs p k + 1 else cntP xs p k
theorem cntP_yes {xs : List Int} {p : Int → Bool} {k : Nat} (h : p (ivL xs k) = true) : cntP xs p (k + 1) = cntP xs p k + 1 := by rw [cntP, if_pos h]
theorem cntP_no {xs : List Int} {p : Int → Bool} {k : Nat} (h : p (ivL xs k) = false) : cntP xs p (k + 1) = cntP xs p k := by rw [cntP, if_neg (by rw [h]; exact Bool.false_ne_true)]
theorem cntP_le (xs : List Int) (p : Int → Bool) : ∀ k, cntP xs p k ≤ k
  | 0 => Nat.le_refl _
  | k + 1 => by
    have := cntP_le xs p k
    rw [cntP]
    split <;> omega


/-- The spokes told by the world, cell by cell. -/
theorem own_cells {w : World} {B : Nat} {v : Value} {xs : List Int} (h : OwnI w B v xs) (hp : 0 < xs.length) : ∃ g c, v = .slice (some ⟨g, 0, none⟩) xs.length c ∧ B ≤ g ∧ g < w.heap.size ∧ ∀ k, k < xs.length → w.cell? ⟨g, k, none⟩ = some (.int .i64 (ivL xs k)) := by
  obtain ⟨A, c, rfl⟩ := h.shape
  obtain ⟨g, rfl, h1, h2, _⟩ := h.cell hp
  refine ⟨g, c, rfl, h1, h2, fun k hk => ?_⟩
  obtain ⟨g', e', _, _, hc⟩ := h.cell hk
  injection e' with e'
  injection e' with e'
  subst e'
  exact hc

def csV (rs : List (Int × Int)) : Int := if whB rs then ((spk rs).length : Int) else 0
theorem csV_no {rs : List (Int × Int)} (h : whB rs = false) : csV rs = 0 := by rw [csV, h]; rfl
theorem csV_yes {rs : List (Int × Int)} (h : whB rs = true) : csV rs = ((spk rs).length : Int) := by rw [csV, h]; rfl
def spV (rs : List (Int × Int)) : List Int := if whB rs then spk rs else []
theorem spV_no {rs : List (Int × Int)} (h : whB rs = false) : spV rs = [] := by rw [spV, h]; rfl
theorem spV_yes {rs : List (Int × Int)} (h : whB rs = true) : spV rs = spk rs := by rw [spV, h]; rfl
theorem spV_len (rs : List (Int × Int)) : (spV rs).length ≤ 1048576 := by
  cases h : whB rs with
  | false => rw [spV_no h]; exact Nat.zero_le _
  | true => rw [spV_yes h]; have := spk_len rs; have := (whB_parts h).2.2.2.2.2.1; omega
def stV (rs : List (Int × Int)) : List Int := if whB rs then stA rs else []
theorem stV_no {rs : List (Int × Int)} (h : whB rs = false) : stV rs = [] := by rw [stV, h]; rfl
theorem stV_yes {rs : List (Int × Int)} (h : whB rs = true) : stV rs = stA rs := by rw [stV, h]; rfl
theorem stV_len (rs : List (Int × Int)) : (stV rs).length ≤ 1048576 := by
  cases h : whB rs with
  | false => rw [stV_no h]; exact Nat.zero_le _
  | true => rw [stV_yes h, stA, stL_len]; have := spk_len rs; have := (whB_parts h).2.2.2.2.2.1; omega
def isO (rs : List (Int × Int)) (n : Int) : Bool := whB rs && inB n 0 1000000000
def isW (rs : List (Int × Int)) (n : Int) : Bool := isO rs n && leftF rs n
theorem isW_no {rs : List (Int × Int)} {n : Int} (h : isO rs n = false) : isW rs n = false := by rw [isW, h]; rfl
theorem isW_yes {rs : List (Int × Int)} {n : Int} (h : isO rs n = true) : isW rs n = leftF rs n := by rw [isW, h]; rfl
def soV (rs : List (Int × Int)) (r : Int) : Int := if isO rs r then r / ((spk rs).length : Int) * (whP rs : Int) + ivL (spk rs) (r % ((spk rs).length : Int)).toNat else 0
theorem soV_no {rs : List (Int × Int)} {r : Int} (h : isO rs r = false) : soV rs r = 0 := by rw [soV, h]; rfl
theorem soV_yes {rs : List (Int × Int)} {r : Int} (h : isO rs r = true) : soV rs r = r / ((spk rs).length : Int) * (whP rs : Int) + ivL (spk rs) (r % ((spk rs).length : Int)).toNat := by rw [soV, h]; rfl






end Go.Proofs.Ytoapidcbmlnjcaa
