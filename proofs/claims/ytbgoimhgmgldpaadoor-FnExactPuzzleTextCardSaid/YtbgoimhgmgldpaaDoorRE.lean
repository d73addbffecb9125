import Derived.Test.YtbgoimhgmgldpaaDoorRD
namespace Go.Proofs.YtbgoimhgmgldpaaDoor
open Go.RowKit
set_option linter.unusedVariables false
set_option linter.unusedSimpArgs false

/-- A row of texts that the call owns. -/
def OwnS (w : World) (B : Nat) (v : Value) (xs : List ByteArray) : Prop := w.ownsRow B 9 1 v xs.length (xs.map Value.string)
theorem info_St : (Tryd.prog.info? 9).map (fun i => (i.zero, i.size, i.bytes)) = some (some (.string ⟨#[]⟩), 1, 16) := by kernel_rfl
theorem OwnS.below {w w' : World} {B : Nat} {v : Value} {xs : List ByteArray} (h : OwnS w B v xs) (hb : Below w.heap.size w w') : OwnS w' B v xs := own_below h hb
theorem OwnS.nil (w : World) (B : Nat) : OwnS w B (.slice none 0 0) [] := World.ownsRow_nil _ _ _ _
theorem OwnS.shape {w : World} {B : Nat} {v : Value} {xs : List ByteArray} (h : OwnS w B v xs) : ∃ A c, v = .slice A xs.length c := by
  rcases h.2 with ⟨e, h0⟩ | ⟨g, cap, cur, e, _⟩
  · exact ⟨none, 0, by rw [e, h0]⟩
  · exact ⟨_, _, e⟩
theorem OwnS.cell {w : World} {B n c : Nat} {A : Option Addr} {xs : List ByteArray} (h : OwnS w B (.slice A n c) xs) {j : Nat} (hj : j < xs.length) :
    ∃ g, A = some ⟨g, 0, none⟩ ∧ B ≤ g ∧ g < w.heap.size ∧ w.cell? ⟨g, j, none⟩ = some (.string (xs.getD j ⟨#[]⟩)) := by
  rcases h.2 with ⟨_, h0⟩ | ⟨g, cap, cur, e, hB, hg, hle, _, hcs, ht⟩
  · omega
  · simp only [Value.slice.injEq] at e
    obtain ⟨rfl, rfl, rfl⟩ := e
    refine ⟨g, rfl, hB, (Array.getElem?_eq_some_iff.1 hg).1, ?_⟩
    have h1 := World.ownsRow.cellAt h j (by omega)
    rw [h1, List.getElem?_map, List.getElem?_eq_getElem hj]
    simp [hj]
/-- append(out, y) for such a row. -/
theorem wp_app_str {ops : Array Oper} {rest : List Oper} {o : Oper} {a : Act} {Q : Exit → Act → World → Prop} (w : World) (hgd : o.guard = none) (s x : Operand)
    (ho : o.op = .call { callee := .builtin .append, args := #[s, x], argTypes := #[36, 36] }) (B : Nat) (v : Value) (xs : List ByteArray) (hs : a.eval s = v) (hown : OwnS w B v xs) (y : ByteArray)
    (hx : a.eval x = .slice (some ⟨w.heap.size, 0, none⟩) 1 1) (hl : xs.length ≤ 2000000000) (hB : B ≤ w.heap.size)
    (h : ∀ v' w', OwnS w' B v' (xs ++ [y]) → Below B w w' → wpList Tryd.prog ops Q rest (a.put o.dst v') w') : wpList Tryd.prog ops Q (o :: rest) a (w.alloc (.cells #[.string y] 9)) := by
  obtain ⟨i0, hi, hz0, hz1, hz2⟩ := info_parts info_St
  refine wpList_append_own _ hgd s x 36 ho B 9 i0 _ 1 16 Tryd.underlying36 hi hz0 hz1 hz2 rfl (by decide) v _ _ hs (World.ownsRow.alloc hown _) ⟨w.heap.size, 0, none⟩ 1 1 [.string y] hx rfl ?_ ?_ (by unfold maxLen; omega) (by omega) (by simp; omega) ?_
  · intro j u hj
    cases j with
    | zero => simp at hj; subst hj; simp [Addr.add]
    | succ j => simp at hj
  · intro u hu
    simp at hu
    subst hu
    rfl
  · intro v' w' hown' hg _
    refine h v' w' ?_ (((Below.refl B w).alloc hB _).grown hg (by simp; omega) fun k hk => (World.ownsRow.lt hown k hk).1)
    simpa [OwnS, List.map_append] using hown'

/-- A text split at a byte: what is whole among the first k bytes, and where the rest begins. -/
def spO (s : ByteArray) (b : Nat) : Nat → List ByteArray × Nat
  | 0 => ([], 0)
  | k + 1 => if byN s k = b then ((spO s b k).1 ++ [s.extract (spO s b k).2 k], k + 1) else spO s b k
theorem spO_cut {s : ByteArray} {b k : Nat} (h : byN s k = b) : spO s b (k + 1) = ((spO s b k).1 ++ [s.extract (spO s b k).2 k], k + 1) := by rw [spO, if_pos h]
theorem spO_on {s : ByteArray} {b k : Nat} (h : byN s k ≠ b) : spO s b (k + 1) = spO s b k := by rw [spO, if_neg h]
theorem spO_le (s : ByteArray) (b : Nat) : ∀ k, (spO s b k).2 ≤ k ∧ (spO s b k).1.length ≤ k
  | 0 => ⟨Nat.le_refl _, Nat.le_refl _⟩
  | k + 1 => by
    have h := spO_le s b k
    by_cases hb : byN s k = b
    · rw [spO_cut hb]
      refine ⟨Nat.le_refl _, ?_⟩
      rw [List.length_append]
      show _ + 1 ≤ _
      omega
    · rw [spO_on hb]
      omega
def splitL (s : ByteArray) (b : Nat) : List ByteArray := (spO s b s.size).1 ++ [s.extract (spO s b s.size).2 s.size]
theorem splitL_len (s : ByteArray) (b : Nat) : (splitL s b).length ≤ s.size + 1 := by
  have := (spO_le s b s.size).2
  rw [splitL, List.length_append]
  show _ + 1 ≤ _
  omega
set_option maxRecDepth 100000 in
set_option maxHeartbeats 1600000 in
theorem l1Split_c (w : World) (s : ByteArray) (b : Nat) (hs : (s.size : Int) ≤ 1000000000) :
    Calls Tryd.prog 16 #[.string s, .int .u8 (b : Int)] w fun en w' => (∃ v, en = .returned v ∧ OwnS w' w.heap.size v (splitL s b)) ∧ Below w.heap.size w w' := by
  go_enter Tryd.func16, Tryd.ntmps16
  go_wp2
  go_loopw [5, 6, 7] (fun v f i wr => ∃ k : Nat, k ≤ s.size ∧ i = .int .i64 (k : Int) ∧ f = .int .i64 ((spO s b k).2 : Int) ∧ OwnS wr w.heap.size v (spO s b k).1 ∧ Below w.heap.size w wr) (fun _ _ i _ => s.size - (intOf i).toNat)
  case atStart => exact ⟨0, Nat.zero_le _, rfl, rfl, OwnS.nil _ _, Below.refl _ _⟩
  case round =>
    obtain ⟨k, hk, rfl, rfl, hown, hbel⟩ := hrel
    have Hown := Lib.hid hown
    have Hbel := Lib.hid hbel
    have hs1 := hbel.size
    obtain ⟨hf1, hf2⟩ := spO_le s b k
    have hw5 : IntKind.i64.wrap ((k : Int) + 1) = (k : Int) + 1 := IntWalk.i64_in _ (by omega)
    clear hown hbel
    by_cases hlt : k < s.size
    · have hki : (k : Int) < (s.size : Int) := by omega
      have hk0 : (0 : Int) ≤ (k : Int) := Int.natCast_nonneg k
      have hki2 : (k : Int) ≤ (s.size : Int) := by omega
      have hby := byN_at hlt
      obtain ⟨x, hx⟩ : ∃ x, byN s k = x := ⟨_, rfl⟩
      have Hcut := Lib.hid (fun h => spO_cut (s := s) (b := b) (k := k) (hx.trans h))
      have Hon := Lib.hid (fun (h : x ≠ b) => spO_on (s := s) (b := b) (k := k) (fun e => h (hx.symm.trans e)))
      rw [hx] at hby
      clear hx
      by_cases hxb : x = b
      · have HC := Lib.hid (Hcut.out hxb)
        subst hxb
        obtain ⟨f, hf⟩ : ∃ f, (spO s x k).2 = f := ⟨_, rfl⟩
        rw [hf] at hf1 HC
        rw [hf]
        have hf0 : (0 : Int) ≤ (f : Int) := Int.natCast_nonneg f
        have hfk : (f : Int) ≤ (k : Int) := by omega
        clear hf
        go_wp2_with (at_builtin; refine wp_app_str _ rfl _ _ rfl w.heap.size _ _ rfl Hown.out _ rfl (by omega) hs1 ?_; intro v' w2 hown2 b2)
        go_roundw
        case rel => exact ⟨k + 1, by omega, by go_num, by rw [HC.out]; go_num, by rw [HC.out]; exact hown2, Hbel.out.trans b2⟩
        case measure => simp [intOf]; omega
      · have HC := Lib.hid (Hon.out hxb)
        have hxi : ((x : Int) == (b : Int)) = false := beq_eq_false_iff_ne.2 (by omega)
        have hxn : (x == b) = false := beq_eq_false_iff_ne.2 hxb
        go_wp2
        go_roundw
        case rel => exact ⟨k + 1, by omega, by go_num, by rw [HC.out], by rw [HC.out]; exact Hown.out, Hbel.out⟩
        case measure => simp [intOf]; omega
    · have hke : k = s.size := by omega
      have HK := Lib.hid hke
      have hki : (s.size : Int) ≤ (k : Int) := by omega
      obtain ⟨f, hf⟩ : ∃ f, (spO s b k).2 = f := ⟨_, rfl⟩
      have HT : Hid (splitL s b = (spO s b k).1 ++ [s.extract f s.size]) := by show _ = _; rw [splitL, ← hke, hf]
      rw [hf] at hf1
      rw [hf]
      have hf0 : (0 : Int) ≤ (f : Int) := Int.natCast_nonneg f
      have hfk : (f : Int) ≤ (s.size : Int) := by omega
      clear hf hke
      go_wp2_with (at_builtin; refine wp_app_str _ rfl _ _ rfl w.heap.size _ _ rfl Hown.out _ rfl (by omega) hs1 ?_; intro v' w2 hown2 b2)
      go_ret
      exact ⟨⟨_, rfl, by rw [HT.out]; exact hown2⟩, Hbel.out.trans b2⟩
end Go.Proofs.YtbgoimhgmgldpaaDoor
