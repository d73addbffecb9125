import Derived.Test.YtoapidcbmlnjcaaI3
import Derived.Test.YtoapidcbmlnjcaaA3
namespace Go.Proofs.Ytoapidcbmlnjcaa
open Go.RowKit
set_option linter.unusedVariables false
set_option linter.unusedSimpArgs false

/-! Rows of gaps, each with the number behind which it is. -/
theorem info_GB : (Try.prog.info? 77).map (fun i => (i.zero, i.size, i.bytes)) = some (some (.agg #[.int .i64 0, .int .i64 0]), 2, 16) := by kernel_rfl
def OwnG (w : World) (B : Nat) (v : Value) (ps : List (Int × Int)) : Prop := w.ownsRow B 77 2 v ps.length (cellsR ps)
theorem OwnG.below {w w' : World} {B : Nat} {v : Value} {ps : List (Int × Int)} (h : OwnG w B v ps) (hb : Below w.heap.size w w') : OwnG w' B v ps := own_below h hb
theorem OwnG.mono {w : World} {B B' : Nat} {v : Value} {ps : List (Int × Int)} (h : OwnG w B v ps) (hB : B' ≤ B) : OwnG w B' v ps := by
  refine ⟨h.1, ?_⟩
  rcases h.2 with h2 | ⟨g, cap, cur, e, hg, r⟩
  · exact .inl h2
  · exact .inr ⟨g, cap, cur, e, Nat.le_trans hB hg, r⟩
theorem OwnG.nil (w : World) (B : Nat) : OwnG w B (.slice none 0 0) [] := World.ownsRow_nil _ _ _ _
theorem OwnG.shape {w : World} {B : Nat} {v : Value} {ps : List (Int × Int)} (h : OwnG w B v ps) : ∃ A c, v = .slice A ps.length c := by
  rcases h.2 with ⟨e, h0⟩ | ⟨g, cap, cur, e, _⟩
  · exact ⟨none, 0, by rw [e, h0]⟩
  · exact ⟨_, _, e⟩
theorem OwnG.cells {w : World} {B : Nat} {v : Value} {ps : List (Int × Int)} (h : OwnG w B v ps) (hp : 0 < ps.length) : ∃ g c, v = .slice (some ⟨g, 0, none⟩) ps.length c ∧ B ≤ g ∧ g < w.heap.size ∧
    ∀ k, k < ps.length → w.cell? ⟨g, k * 2, none⟩ = some (.int .i64 (evL ps k)) ∧ w.cell? ⟨g, k * 2 + 1, none⟩ = some (.int .i64 (reL ps k)) := by
  have h' := h
  rcases h.2 with ⟨e, h0⟩ | ⟨g, cap, cur, e, hB, hg, _⟩
  · omega
  · subst e
    have hl := cellsR_length ps
    refine ⟨g, cap, rfl, hB, (Array.getElem?_eq_some_iff.1 hg).1, fun k hk => ?_⟩
    obtain ⟨h1, h2⟩ := cellsR_get ps k hk
    exact ⟨(World.ownsRow.cellAt h' (k * 2) (by omega)).trans h1, (World.ownsRow.cellAt h' (k * 2 + 1) (by omega)).trans h2⟩
/-- append(out, gap) for a row that the call owns. -/
theorem wp_app_gap {ops : Array Oper} {rest : List Oper} {o : Oper} {a : Act} {Q : Exit → Act → World → Prop} (w : World) (hgd : o.guard = none) (s x : Operand)
    (ho : o.op = .call { callee := .builtin .append, args := #[s, x], argTypes := #[82, 82] }) (B : Nat) (v : Value) (rs : List (Int × Int)) (hs : a.eval s = v) (hown : OwnG w B v rs) (e q : Int)
    (hx : a.eval x = .slice (some ⟨w.heap.size, 0, none⟩) 1 1) (hl : rs.length ≤ 1048576) (hB : B ≤ w.heap.size)
    (h : ∀ v' w', OwnG w' B v' (rs ++ [(e, q)]) → Below B w w' → wpList Try.prog ops Q rest (a.put o.dst v') w') : wpList Try.prog ops Q (o :: rest) a (w.alloc (.cells #[.int .i64 e, .int .i64 q] 77)) := by
  obtain ⟨i0, hi, hz0, hz1, hz2⟩ := info_parts info_GB
  refine wpList_append_own _ hgd s x 82 ho B 77 i0 _ 2 16 Try.underlying82 hi hz0 hz1 hz2 rfl (by decide) v _ _ hs (World.ownsRow.alloc hown _) ⟨w.heap.size, 0, none⟩ 1 1 [.int .i64 e, .int .i64 q] hx rfl ?_ ?_ (by unfold maxLen; omega) (by omega) (by simp; omega) ?_
  · intro j u hj
    match j, hj with
    | 0, hj => simp at hj; subst hj; simp [Addr.add]
    | 1, hj => simp at hj; subst hj; simp [Addr.add]
    | j + 2, hj => simp at hj
  · intro u hu
    simp at hu
    rcases hu with rfl | rfl <;> rfl
  · intro v' w' hown' hg _
    refine h v' w' ?_ (((Below.refl B w).alloc hB _).grown hg (by simp; omega) fun k hk => (World.ownsRow.lt hown k hk).1)
    simpa [OwnG, cellsR, List.flatMap_append] using hown'
/-- The shape of an owned row of S numbers, and its cells. -/
theorem own_row {w : World} {B : Nat} {v : Value} {xs : List Int} (h : OwnI w B v xs) : ∃ A c, v = .slice A xs.length c ∧ (0 < xs.length → ∃ g, A = some ⟨g, 0, none⟩ ∧ B ≤ g ∧ g < w.heap.size ∧ ∀ j, j < xs.length → w.cell? ⟨g, j, none⟩ = some (.int .i64 (ivL xs j))) := by
  rcases own_forms h with ⟨e, h0⟩ | ⟨g, c, e, hB, hg, _⟩
  · exact ⟨none, 0, by rw [e, h0]; rfl, fun hp => by rw [h0] at hp; simp at hp⟩
  · subst e
    exact ⟨_, c, rfl, fun _ => ⟨g, rfl, hB, hg, fun j hj => (World.ownsRow.cellAt h j (by omega)).trans (ivL_get xs j hj)⟩⟩
set_option maxRecDepth 100000 in
set_option maxHeartbeats 1600000 in
theorem recordsBetween_c (w : World) (A : Option Addr) (n c : Nat) (xs : List Int) (hA : Il w A xs) (hn : n = xs.length) (hl : n ≤ 300000) (hb : ∀ j, j < n → 0 ≤ ivL xs j ∧ ivL xs j ≤ 300000) :
    Calls Try.prog 78 #[.slice A n c] w fun en w' => (∃ v, en = .returned v ∧ OwnG w' w.heap.size v (recP xs (dfL xs (n - 1)) (n - 1)).2) ∧ Below w.heap.size w w' := by
  have HA := Lib.hid hA
  have Hn := Lib.hid hn
  have Hg := Lib.hid (gapsBetween_c w A n c xs hA hn hl hb)
  have hS := dfL_len xs (n - 1)
  obtain ⟨S, hSe⟩ : ∃ S, n - 1 = S := ⟨_, rfl⟩
  have HSn := Lib.hid (show S ≤ n from by omega)
  obtain ⟨gs, hgs⟩ : ∃ gs, dfL xs (n - 1) = gs := ⟨_, rfl⟩
  rw [hgs] at Hg hS ⊢
  rw [hSe] at hS ⊢
  have HS := Lib.hid hS
  have HY := Lib.hid (fun k => @recP_yes xs gs k)
  have HN := Lib.hid (fun k => @recP_no xs gs k)
  have HZ := Lib.hid (recP_len xs gs)
  clear hA hn hb hgs hSe hS
  go_enter Try.func78, Try.ntmps78
  go_wp2_with fail
  refine Hg.out.mono ?_
  rintro e w2 ⟨⟨v2, rfl, o2⟩, b2⟩
  have hs2 := b2.size
  obtain ⟨A2, c2, rfl, hcl⟩ := own_row o2
  rw [HS.out] at hcl ⊢
  have Hcl := Lib.hid hcl
  clear o2 hcl
  go_wp2
  go_loopw [3, 4, 5, 6, 10] (fun v z _ _ i wr => ∃ k : Nat, k ≤ S ∧ i = .int .i64 (k : Int) ∧ z = .int .i64 (recP xs gs k).1 ∧ OwnG wr w2.heap.size v (recP xs gs k).2 ∧ Below w2.heap.size w2 wr) (fun _ _ _ _ i _ => S - (intOf i).toNat)
  case atStart => exact ⟨0, Nat.zero_le _, rfl, rfl, OwnG.nil _ _, Below.refl _ _⟩
  case round =>
    obtain ⟨k, hk, rfl, rfl, hown, hbel⟩ := hrel
    have hs := hbel.size
    have hkz := HZ.out k
    obtain ⟨z, hz⟩ : ∃ z, (recP xs gs k).1 = z := ⟨_, rfl⟩
    obtain ⟨R, hR⟩ : ∃ R, (recP xs gs k).2 = R := ⟨_, rfl⟩
    have hy := HY.out k
    have hno := HN.out k
    rw [hz] at hy hno ⊢
    rw [hR] at hy hown hkz
    have Hz := Lib.hid hz
    have HR := Lib.hid hR
    have Hown := Lib.hid hown
    have Hkz := Lib.hid hkz
    clear hz hR hown hkz
    by_cases hlt : k < S
    · obtain ⟨g, rfl, _, hg2, hc⟩ := Hcl.out (by omega)
      have hck := (hbel.cell (p := ⟨g, k, none⟩) hg2).trans (hc k hlt)
      have hki : (k : Int) < (S : Int) := by omega
      obtain ⟨d, hd⟩ : ∃ d, ivL gs k = d := ⟨_, rfl⟩
      rw [hd] at hck hy hno
      obtain ⟨b, off, rfl, hb2, hcx⟩ := HA.out (by have := Hn.out; have := HSn.out; omega)
      have hx := ((b2.trans (hbel.mono hs2)).cell (p := ⟨b, off + k, none⟩) hb2).trans (hcx k (by have := Hn.out; have := HSn.out; omega))
      have hkn : (k : Int) < (n : Int) := by have := HSn.out; omega
      obtain ⟨X, hX⟩ : ∃ X, ivL xs k = X := ⟨_, rfl⟩
      rw [hX] at hx hy
      clear hc hd hcx hX
      by_cases hzd : z < d
      · have Hy := Lib.hid (hy hzd)
        clear hy hno
        go_wp2_with (at_builtin; refine wp_app_gap _ rfl _ _ rfl w2.heap.size _ _ rfl Hown.out _ _ rfl (by have := Hkz.out; omega) hs ?_; intro v' w6 hown6 b6)
        go_roundw
        case rel => exact ⟨k + 1, by omega, by go_num, by rw [Hy.out], by rw [Hy.out]; exact hown6, hbel.trans b6⟩
        case measure => simp [intOf]; omega
      · have Hy := Lib.hid (hno (by omega))
        clear hy hno
        go_wp2
        go_roundw
        case rel => exact ⟨k + 1, by omega, by go_num, by rw [Hy.out, Hz.out], by rw [Hy.out, HR.out]; exact Hown.out, hbel⟩
        case measure => simp [intOf]; omega
    · have Hk := Lib.hid (show k = S by omega)
      have hki : (S : Int) ≤ (k : Int) := by omega
      go_wp2
      go_ret
      exact ⟨⟨_, rfl, by rw [← Hk.out, HR.out]; exact OwnG.mono Hown.out hs2⟩, b2.trans (hbel.mono hs2)⟩

end Go.Proofs.Ytoapidcbmlnjcaa
