import Derived.Test.YtbaimgdnajompaaC4
namespace Go.Proofs.Ytbaimgdnajompaa
open Go.RowKit Go.Maps
set_option linter.unusedVariables false
set_option linter.unusedSimpArgs false

theorem bool_inv {e : TypeId} {v : Value} {z : DataW Unit × List MemPlace} (he : Try.prog.underlying e = some .bool) (h : plainElem Try.prog e v = some z) : ∃ x, v = .bool x ∧ z = (.lit (.bool x), []) := by
  unfold plainElem at h
  rw [he] at h
  cases v <;> simp at h
  exact ⟨_, rfl, h.symm⟩
/-- The operation != at two bools, and the test ahead of it. -/
theorem neq_bool (W : World) (x y : Value) (xd yd : DataW Unit) (xp yp : List MemPlace) (hx : plainElem Try.prog 4 x = some (xd, xp)) (hy : plainElem Try.prog 4 y = some (yd, yp)) :
    (binOp .neq 4 x y).run Try.prog W = .ok (.bool (!eqB xd yd)) W ∧ ∀ (a b : Operand), (eqGuard .neq 4 a b x y).run Try.prog W = .ok () W := by
  obtain ⟨a, rfl, h1⟩ := bool_inv Try.underlying4 hx
  obtain ⟨b, rfl, h2⟩ := bool_inv Try.underlying4 hy
  obtain rfl : xd = .lit (.bool a) := congrArg Prod.fst h1
  obtain rfl : yd = .lit (.bool b) := congrArg Prod.fst h2
  refine ⟨?_, fun _ _ => ?_⟩
  · cases a <;> cases b <;> kernel_rfl
  · rfl

set_option maxHeartbeats 4000000 in
set_option maxRecDepth 100000 in
/-- maps.Equal on two maps of bools by numbers. -/
theorem mapsEq_c (w : World) (b1 b2 n1 n2 : Nat) (D1 D2 : DataW Unit) (h1 : w.ownsMap Try.prog 3 (plainElem Try.prog 4) b1 n1 D1) (h2 : w.ownsMap Try.prog 3 (plainElem Try.prog 4) b2 n2 D2) :
    Calls Try.prog 86 #[.map (some b1), .map (some b2)] w fun e w' => e = .returned (.bool (Lib.equalFuncD eqB D1 D2)) ∧ Below w.heap.size w w' := by
  have hz2 : ∀ w, (zeroValue 4).run Try.prog w = .ok (.bool false) w := fun w => by kernel_rfl
  have hzd : plainElem (H := Unit) Try.prog 4 (.bool false) = some (.lit (.bool false), []) := plainElem_bool Try.underlying4 false
  have l1 := fun ty => h1.len (t := 68) Try.underlying68 ty
  have l2 := fun ty => h2.len (t := 68) Try.underlying68 ty
  obtain ⟨es1, rfl, hap, hkeys⟩ := h1.entries keyI
  have hb2 := h2.lt
  generalize hres : Lib.equalFuncD eqB (.map es1) D2 = res
  have RES := Lib.hid hres
  clear hres
  suffices hsuf : Calls Try.prog 86 #[.map (some b1), .map (some b2)] w fun e w' => e = .returned (.bool res) ∧ w.grownBy w' none from
    hsuf.mono (by rintro e w' ⟨rfl, hg⟩; exact ⟨rfl, (Below.refl _ w).grown hg (Nat.le_refl _) (fun j hj => by cases hj)⟩)
  by_cases hsz : Maps.size (.map es1 : DataW Unit) = Maps.size D2
  · go_enter Try.func86, Try.ntmps86
    go_wp2_with (first
      | (at_range; refine wpList_range_own _ rfl _ 68 rfl 3 4 keyI Try.underlying68 (plainElem Try.prog 4) b1 n1 _ rfl h1 ?_; intro w0 hrg0 hg0 hs0)
      | go_in)
    go_frame
    go_loopw [18] (fun _ wr => ∃ (left : Lit → Bool) (cnt : Nat), wr.ranges Try.prog 3 (plainElem Try.prog 4) b1 w.heap.size n1 (.map es1) left cnt ∧ wr.ownsMap Try.prog 3 (plainElem Try.prog 4) b2 n2 D2 ∧ w.grownBy wr none ∧ Hid (GoodAt eqB es1 D2 left))
      (fun _ wr => wr.rangeLeft b1 w.heap.size)
    case atStart => exact ⟨_, _, hrg0, h2.kept hg0 (by simp), hg0, Lib.hid (good_start hkeys D2)⟩
    case round =>
      obtain ⟨left, cnt, hrg, h2r, hgw, G⟩ := hrel
      go_wp2_with (first
        | (at_next; refine wpList_next_ranges _ rfl _ rfl 3 keyI (plainElem Try.prog 4) id id (fun key _ _ => ⟨key, rfl⟩) (fun v _ _ => ⟨v, rfl⟩) b1 w.heap.size n1 _ _ _ rfl hrg ?_ ?_)
        | go_in)
      · intro _ hl0
        go_wp2
        go_ret
        exact ⟨by rw [← RES.out, all_good G.out hl0 hsz]; rfl, hgw⟩
      · intro x c kl yd yp w1 cnt1 hkey hlx hv hat hrg1 hlt hg1 hs1 hen
        have hgw1 : w.grownBy w1 none := hgw.andThen hg1 (fun j hj => by cases hj; exact Or.inl (Nat.le_refl _))
        have h2w1 := h2r.kept hg1 (fun e => by have := Option.some.inj e; omega)
        have HAT := Lib.hid hat
        clear hat
        cases hh : Maps.has D2 kl
        · have hbad : Lib.goodD eqB D2 (kl, yd) = false := by unfold Lib.goodD; rw [hh]; rfl
          go_wp2_with (first
            | (at_lookup; refine wpList_lookup_own_ok _ rfl _ _ 68 rfl 3 4 keyI Try.underlying68 (plainElem Try.prog 4) (hz2 _) _ _ hzd b2 n2 D2 rfl h2w1 _ kl rfl hkey ?_; intro v2 ps2 hv2; rw [hh]; go_frame)
            | go_in)
          go_ret
          exact ⟨by rw [← RES.out, bad_false hap hkeys HAT.out hbad]; rfl, hgw1⟩
        · cases he : eqB yd (D2.atKey kl (.lit (.bool false)))
          · have hbad : Lib.goodD eqB D2 (kl, yd) = false := by unfold Lib.goodD; rw [hh, atKey_indep hh .nil (.lit (.bool false)), he]; rfl
            go_wp2_with (first
              | (at_lookup; refine wpList_lookup_own_ok _ rfl _ _ 68 rfl 3 4 keyI Try.underlying68 (plainElem Try.prog 4) (hz2 _) _ _ hzd b2 n2 D2 rfl h2w1 _ kl rfl hkey ?_; intro v2 ps2 hv2; rw [hh]; go_frame; have hc := fun W => (neq_bool W c v2 yd _ yp ps2 hv hv2).1; have hgd := fun W => (neq_bool W c v2 yd _ yp ps2 hv hv2).2; rw [he] at hc)
              | go_in)
            go_ret
            exact ⟨by rw [← RES.out, bad_false hap hkeys HAT.out hbad]; rfl, hgw1⟩
          · have hgood : Lib.goodD eqB D2 (kl, yd) = true := by unfold Lib.goodD; rw [hh, atKey_indep hh .nil (.lit (.bool false)), he]; rfl
            go_wp2_with (first
              | (at_lookup; refine wpList_lookup_own_ok _ rfl _ _ 68 rfl 3 4 keyI Try.underlying68 (plainElem Try.prog 4) (hz2 _) _ _ hzd b2 n2 D2 rfl h2w1 _ kl rfl hkey ?_; intro v2 ps2 hv2; rw [hh]; go_frame; have hc := fun W => (neq_bool W c v2 yd _ yp ps2 hv hv2).1; have hgd := fun W => (neq_bool W c v2 yd _ yp ps2 hv hv2).2; rw [he] at hc)
              | go_in)
            go_roundw
            case rel => exact ⟨_, cnt1, hrg1, h2w1, hgw1, Lib.hid (good_step hap hkeys HAT.out G.out hgood)⟩
            case measure => rw [hrg1.left_eq, hrg.left_eq]; exact hlt
  · have hne : ¬ ((Maps.size (.map es1 : DataW Unit) : Int) = (Maps.size D2 : Int)) := fun e => hsz (by exact_mod_cast e)
    go_enter Try.func86, Try.ntmps86
    go_wp2
    go_ret
    exact ⟨by rw [← RES.out, sizes_false hsz]; rfl, World.grownBy.refl _ _⟩

end Go.Proofs.Ytbaimgdnajompaa
