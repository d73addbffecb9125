import Derived.Test.YtfhaeplamahcpaaDoorSP9
import Derived.Test.YtfhaeplamahcpaaDoorSP4
import Derived.Lib.AtoiErrMem
namespace Go.Proofs.YtfhaeplamahcpaaDoor
open Go.RowKit Go.Shelf
attribute [local go_sem] Oper.semAt_some
set_option linter.unusedVariables false
set_option linter.unusedSimpArgs false

/-- What is asked of the library's variables: ErrSyntax and ErrRange errors. -/
def IsErr (v : Value) : Prop := v = .nilIface ∨ ∃ te pe, v = .iface te pe
structure LW (w : World) : Prop where
  syn : ∃ v, w.cell? ⟨1, 0, none⟩ = some v ∧ IsErr v
  rng : ∃ v, w.cell? ⟨2, 0, none⟩ = some v ∧ IsErr v
theorem cell_keep {w w' : World} (hb : Below w.heap.size w w') {p : Addr} {v : Value} (h : w.cell? p = some v) : w'.cell? p = some v :=
  (hb.cell (World.block_lt_of_cell? w p (by rw [h]))).trans h
theorem LW.below {w w' : World} (h : LW w) (hb : Below w.heap.size w w') : LW w' := by
  obtain ⟨⟨v, h2, h3⟩, ⟨u, h4, h5⟩⟩ := h
  exact ⟨⟨v, cell_keep hb h2, h3⟩, ⟨u, cell_keep hb h4, h5⟩⟩
def cuE (x : Pc) : ByteArray := ⟨(Lib.cut (pcB x) [58]).1.toArray⟩
def cuR (x : Pc) : ByteArray := ⟨(Lib.cut (pcB x) [58]).2.1.toArray⟩
theorem cu_size (x : Pc) : (cuE x).size ≤ 1048576 ∧ (cuR x).size ≤ 1048576 := by
  have h : (pcB x).length ≤ 1048576 := by have := x.2; simpa [pcB] using this
  have h1 : (cuE x).size = (Lib.cut (pcB x) [58]).1.length := by simp [cuE, ByteArray.size]
  have h2 : (cuR x).size = (Lib.cut (pcB x) [58]).2.1.length := by simp [cuR, ByteArray.size]
  rw [h1, h2, Lib.cut]
  split
  · simp only [List.length_take, List.length_drop]; omega
  · exact ⟨h, Nat.zero_le _⟩
theorem cuE_bytes (x : Pc) : (cuE x).data.toList = (Lib.cut (pcB x) [58]).1 := by simp [cuE]
theorem cuR_bytes (x : Pc) : (cuR x).data.toList = (Lib.cut (pcB x) [58]).2.1 := by simp [cuR]
theorem pcR_ok {x : Pc} {e r : Int} (h1 : Lib.atoiAll (cuE x).data.toList = .ok e) (h2 : Lib.atoiAll (cuR x).data.toList = .ok r) : pcR (pcB x) = some (e, r) := by
  rw [cuE_bytes] at h1
  rw [cuR_bytes] at h2
  rw [pcR]
  simp only [h1, h2]
def isOk (t : ByteArray) : Prop := ∃ u, Lib.atoiAll t.data.toList = .ok u
theorem pcR_bad {x : Pc} (h : ¬ (isOk (cuE x) ∧ isOk (cuR x))) : pcR (pcB x) = none := by
  rw [pcR, ← cuE_bytes, ← cuR_bytes]
  cases h1 : Lib.atoiAll (cuE x).data.toList with
  | ok e =>
    cases h2 : Lib.atoiAll (cuR x).data.toList with
    | ok r => exact absurd ⟨⟨e, h1⟩, ⟨r, h2⟩⟩ h
    | «syntax» => rfl
    | range => rfl
  | «syntax» => rfl
  | range => rfl
theorem pcL_snoc (xs : List Pc) (x : Pc) : pcL ((xs ++ [x]).map pcB) = match pcL (xs.map pcB), pcR (pcB x) with
    | some rs, some r => some (rs ++ [r])
    | _, _ => none := by
  induction xs with
  | nil =>
    show pcL [pcB x] = _
    rw [pcL, show pcL ([].map pcB) = some [] from rfl, show pcL [] = some [] from rfl]
    cases pcR (pcB x) <;> rfl
  | cons y t ih =>
    rw [List.cons_append, List.map_cons, pcL, ih, List.map_cons, pcL]
    cases pcR (pcB y) <;> cases pcL (t.map pcB) <;> cases pcR (pcB x) <;> rfl
theorem pcL_app_none {a b : List (List UInt8)} (h : pcL a = none) : pcL (a ++ b) = none := by
  induction a with
  | nil => cases h
  | cons y t ih =>
    rw [List.cons_append, pcL]
    rw [pcL] at h
    cases hy : pcR y with
    | none => rfl
    | some r =>
      cases ht : pcL t with
      | none => rw [ih ht]
      | some rs => rw [hy, ht] at h; cases h
theorem cut_c (x : Pc) (w : World) (hl : LW w) :
    Calls Tryd.prog 17 #[.string x.1, .string ⟨#[58]⟩] w fun e w' => e = .returned (.tuple #[.string (cuE x), .string (cuR x), .bool (Lib.cut (pcB x) [58]).2.2]) ∧ Below w.heap.size w w' := cut17 x.1 w x.2
theorem atoi_ok (t : ByteArray) (w : World) (ht : t.size ≤ 1048576) {u : Int} (h : Lib.atoiAll t.data.toList = .ok u) :
    Calls Tryd.prog 18 #[.string t] w fun e w' => e = .returned (.tuple #[.int .i64 u, .nilIface]) ∧ Below w.heap.size w w' := by
  refine (Tryd.strconv_Atoi_ok t (by omega) u h w).mono ?_
  rintro e w' ⟨rfl, rfl | ⟨y, rfl⟩⟩
  · exact ⟨rfl, Below.refl _ _⟩
  · exact ⟨rfl, Lib.bytesWorld_below w _ y⟩
theorem atoi_bad (t : ByteArray) (w : World) (hl : LW w) (ht : t.size ≤ 1048576) (h : ¬ isOk t) :
    Calls Tryd.prog 18 #[.string t] w fun e w' => (∃ u te pe, e = .returned (.tuple #[.int .i64 u, .iface te pe])) ∧ Below w.heap.size w w' := by
  cases hk : Lib.atoiAll t.data.toList with
  | ok u => exact absurd ⟨u, hk⟩ h
  | «syntax» =>
    obtain ⟨v, h1, h2⟩ := hl.syn
    refine (Tryd.strconv_Atoi_syntax t (by omega) hk v w h1 h2).mono ?_
    rintro e w' ⟨N, rfl, _, _, hb⟩
    exact ⟨⟨_, _, _, rfl⟩, hb⟩
  | range =>
    obtain ⟨v, h1, h2⟩ := hl.rng
    refine (Tryd.strconv_Atoi_range t (by omega) hk v w h1 h2).mono ?_
    rintro e w' ⟨N, rfl, _, _, hb⟩
    exact ⟨⟨_, _, _, rfl⟩, hb⟩
end Go.Proofs.YtfhaeplamahcpaaDoor
