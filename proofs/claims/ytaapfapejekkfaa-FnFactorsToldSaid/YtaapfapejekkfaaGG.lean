import Derived.Test.YtaapfapejekkfaaGD
namespace Go.Proofs.Ytaapfapejekkfaa
open Go.RowKit Go.Maps
set_option linter.unusedVariables false
set_option linter.unusedSimpArgs false

theorem size_zero {w : World} {b n : Nat} {D : DataW Unit} {R : Value → Option (DataW Unit × List MemPlace)} (hown : w.ownsMap Try.prog 3 R b n D) (h : KeysD D []) : Maps.size D = 0 := by
  obtain ⟨es, rfl, _, hk⟩ := hown.entries keyI
  cases es with
  | nil => rfl
  | cons e es =>
    have h1 := WideAt.sameKey_self (hk e (List.mem_cons_self ..))
    have := (h e.1).1 (by rw [has_eq, List.any_cons, h1]; rfl)
    obtain ⟨p, hp, _⟩ := this
    cases hp
theorem size_pos {D : DataW Unit} {ks : List Nat} {p : Nat} (hD : IsMap D) (h : KeysD D ks) (hp : p ∈ ks) : 0 < Maps.size D := by
  obtain ⟨es, rfl⟩ := hD
  have h1 := (h (.int .i64 (p : Int))).2 ⟨p, hp, rfl⟩
  cases es with
  | nil => cases h1
  | cons e es => rw [size_eq]; simp
theorem KeysD.del {D : DataW Unit} {ks : List Nat} {p : Nat} (h : KeysD D (p :: ks)) (hn : p ∉ ks) : KeysD (D.del (.int .i64 (p : Int))) ks := fun kl => by
  by_cases e : kl = .int .i64 (p : Int)
  · subst e
    rw [has_del_same]
    constructor
    · intro h; cases h
    · rintro ⟨q, h1, h2⟩
      have := key_inj h2
      subst this
      exact absurd h1 hn
  · rw [has_del_other e, h kl]
    constructor
    · rintro ⟨q, h1, h2⟩
      rcases List.mem_cons.1 h1 with h3 | h3
      · subst h3; exact absurd h2 e
      · exact ⟨q, h3, h2⟩
    · rintro ⟨q, h1, h2⟩; exact ⟨q, List.mem_cons_of_mem _ h1, h2⟩
theorem int_lit_inj {a b : Int} (h : (DataW.lit (.int .i64 a) : DataW Unit) = .lit (.int .i64 b)) : a = b := by
  injection h with h
  injection h with _ h
theorem map_belowB {w w' : World} {P : Program} {k : TypeId} {R : Value → Option (DataW Unit × List MemPlace)} {b n B : Nat} {D : DataW Unit} (h : w.ownsMap P k R b n D) (hb : Below B w w') (hB : b < B) : w'.ownsMap P k R b n D := by
  obtain ⟨es, clock, hb0, F, hs, hD⟩ := h
  exact ⟨es, clock, (hb.block b hB).trans hb0, F, hs, hD⟩
theorem OwnLL.kept {w w' : World} {B g : Nat} {v : Value} {ps : List (List Int)} (h : OwnLL w B v ps) (hg : w.grownBy w' (some g)) (hB : g < B) : OwnLL w' B v ps := by
  obtain ⟨vs, h1, h2, h3⟩ := h
  refine ⟨vs, kept_if h1 hg fun q hq e => ?_, fun i hi => ?_, h3⟩
  · injection e with e
    have := (World.ownsRow.lt h1 q hq).1
    omega
  · obtain ⟨u, a, o⟩ := h2 i hi
    exact ⟨u, a, kept_if o hg fun q hq e => by injection e with e; have := (World.ownsRow.lt o q hq).1; omega⟩

set_option maxRecDepth 100000 in
set_option maxHeartbeats 1000000 in
theorem leastKey_c (w : World) (b N : Nat) (D : DataW Unit) (hown : w.ownsMap Try.prog 3 (plainElem Try.prog 3) b N D) (ks : List Nat) (hK : KeysD D ks) (hnd : ks.Nodup) (h9 : ∀ p ∈ ks, p ≤ 1000000000) (p0 : Nat) (hp0 : p0 ∈ ks) (hmin : ∀ p ∈ ks, p0 ≤ p) :
    Calls Try.prog 183 #[.map (some b)] w fun en w' => en = .returned (.int .i64 (p0 : Int)) ∧ Below w.heap.size w w' := by
  have Hmin := Lib.hid hmin
  have H9 := Lib.hid h9
  have HK := Lib.hid hK
  have hp9 := h9 p0 hp0
  have hbw := hown.lt
  clear hmin h9 hK
  go_enter Try.func183, Try.ntmps183
  go_wp2_with (first
    | (at_range; refine wpList_range_own _ rfl _ 116 rfl 3 3 keyI Try.underlying116 _ b N _ rfl hown ?_; intro w0 hrg0 hg0 hs0)
    | go_in)
  go_frame
  go_loopw [3] (fun a wr => ∃ (left : Lit → Bool) (cnt : Nat) (rem : List Nat) (acc : Nat), a = .int .i64 (acc : Int) ∧ wr.ranges Try.prog 3 (plainElem Try.prog 3) b w.heap.size N D left cnt ∧ KeysL left rem ∧ rem.Nodup ∧ (∀ p ∈ rem, p ∈ ks) ∧ (∀ p ∈ ks, p ∈ rem ∨ acc ≤ p) ∧ (acc = 1000000000 ∨ acc ∈ ks) ∧ Below w.heap.size w wr) (fun _ wr => wr.rangeLeft b w.heap.size)
  case atStart => exact ⟨_, _, ks, 1000000000, rfl, hrg0, HK.out, hnd, fun p hp => hp, fun p hp => .inl hp, .inl rfl, (Below.refl _ _).grown hg0 (Nat.le_refl _) (fun j hj => by cases hj)⟩
  case round =>
    clear hrg0 hg0 hs0 HK hown hnd
    obtain ⟨left, cnt, rem, acc, rfl, hrg, hKL, hnr, hsub, hall, hor, hbel⟩ := hrel
    have Hsub := Lib.hid hsub
    have Hall := Lib.hid hall
    have HKL := Lib.hid hKL
    have Hor := Lib.hid hor
    clear hsub hall hKL hor
    go_wp2_with (first
      | (at_next; refine wpList_next_ranges_ii _ rfl _ rfl 3 3 .i64 .i64 keyI Try.underlying3 Try.underlying3 b w.heap.size N _ _ _ rfl hrg ?_ ?_)
      | go_in)
    · intro _ hl0
      have He := Lib.hid (HKL.out.none hl0)
      have ha : acc = p0 := by
        have h1 := (Hall.out p0 hp0).resolve_left (by rw [He.out]; exact List.not_mem_nil)
        rcases Hor.out with h2 | h2
        · omega
        · have := Hmin.out acc h2
          omega
      have Ha := Lib.hid ha
      clear hl0 ha
      go_wp2
      go_ret
      exact ⟨by rw [Ha.out]; rfl, hbel⟩
    · intro x c w1 cnt1 hwx hwc hlx hat hrg1 hlt hg1 hs1 hen
      obtain ⟨p, rfl, hp⟩ := HKL.out.mem hlx
      have hbel1 := hbel.grown hg1 hbel.size (fun j hj => by cases hj; exact Nat.le_refl _)
      have hpk := Hsub.out p hp
      have HKL2 := Lib.hid (HKL.out.step hnr p)
      have Hnr2 := Lib.hid (hnr.erase p)
      have Hsub2 := Lib.hid (fun y (hy : y ∈ rem.erase p) => Hsub.out y (List.mem_of_mem_erase hy))
      have Hall2 := Lib.hid (fun y (hy : y ∈ ks) => show y ∈ rem.erase p ∨ min acc p ≤ y by
        by_cases e : y = p
        · subst e; exact .inr (Nat.min_le_right _ _)
        · rcases Hall.out y hy with h | h
          · exact .inl ((hnr.mem_erase_iff).2 ⟨e, h⟩)
          · exact .inr (Nat.le_trans (Nat.min_le_left _ _) h))
      have Hor2 : Hid (min acc p = 1000000000 ∨ min acc p ∈ ks) := by
        show _ ∨ _
        rcases Nat.le_total acc p with h | h
        · rw [Nat.min_eq_left h]; exact Hor.out
        · rw [Nat.min_eq_right h]; exact .inr hpk
      have hmn : min (acc : Int) (p : Int) = ((min acc p : Nat) : Int) := by omega
      clear hwx hwc hlx hat hp hpk
      go_wp2
      go_roundw
      case rel => exact ⟨_, cnt1, rem.erase p, min acc p, rfl, hrg1, HKL2.out, Hnr2.out, Hsub2.out, Hall2.out, Hor2.out, hbel1⟩
      case measure => rw [hrg1.left_eq, hrg.left_eq]; exact hlt

def faOk (n : Int) : Bool := inB n 1 1000000000
def faA (n : Int) : List (List Int) := if faOk n then flL n.toNat else []
theorem faA_no {n : Int} (h : faOk n = false) : faA n = [] := by rw [faA, h]; rfl
theorem faA_yes {n : Nat} (h : faOk (n : Int) = true) : faA (n : Int) = flL n := by rw [faA, h, Int.toNat_natCast]; rfl
theorem faA_len (n : Int) : (faA n).length ≤ 1048576 ∧ sumL (faA n) (faA n).length ≤ 1048576 := by
  cases h : faOk n with
  | false => rw [faA_no h]; exact ⟨Nat.zero_le _, Nat.zero_le _⟩
  | true =>
    obtain ⟨n1, n2⟩ := inB_true.1 h
    obtain ⟨N, rfl⟩ := Int.eq_ofNat_of_zero_le (Int.le_trans (by omega) n1)
    rw [faA_yes h]
    have := flL_len (n := N) (by omega) (by omega)
    rw [flL_sum _ _ (Nat.le_refl _)]
    omega
set_option maxRecDepth 100000 in
set_option maxHeartbeats 400000 in
theorem spec_FactorsOf_c (w : World) (n : Int) :
    Calls Try.prog 30 #[.int .i64 n] w fun en w' => (∃ v, en = .returned (.tuple #[v, .bool (faOk n)]) ∧ OwnLL w' w.heap.size v (faA n)) ∧ Below w.heap.size w w' := by
  cases hg : inB n 1 1000000000 with
  | false =>
    have ho : faOk n = false := hg
    rw [faA_no ho, ho]
    clear ho
    go_enter Try.func30, Try.ntmps30
    go_wp2_with fail
    refine (prFactored_c _ _).mono ?_
    rintro e w1 ⟨rfl, rfl⟩
    go_wp2
    go_ret2
    exact ⟨⟨_, rfl, OwnLL.nil _ _⟩, (Below.refl _ _)⟩
  | true =>
    have ho : faOk n = true := hg
    obtain ⟨n1, n2⟩ := inB_true.1 hg
    obtain ⟨N, rfl⟩ := Int.eq_ofNat_of_zero_le (Int.le_trans (by omega) n1)
    rw [faA_yes ho, ho]
    clear ho
    have Hg := Lib.hid hg
    go_enter Try.func30, Try.ntmps30
    go_wp2_with fail
    refine (prFactored_c _ _).mono ?_
    rintro e w1 ⟨rfl, rfl⟩
    go_wp2_with fail
    refine (prFactors_c _ N (by omega) (by omega)).mono ?_
    rintro e w2 ⟨⟨v2, rfl, o2⟩, b2⟩
    go_wp2
    go_ret2
    exact ⟨⟨_, rfl, o2⟩, b2⟩
/-- The length of a slice. -/
def slLen : Value → Nat
  | .slice _ m _ => m
  | _ => 0
theorem slLen_is (A : Option Addr) (m c : Nat) : slLen (.slice A m c) = m := rfl
/-- A pair as a list. -/
def pairI (x : Nat × Nat) : List Int := [(x.1 : Int), (x.2 : Int)]
set_option maxRecDepth 100000 in
set_option maxHeartbeats 2000000 in
theorem impl_FactorsOf_c (w : World) (n : Int) :
    Calls Try.prog 29 #[.int .i64 n] w fun en w' => (∃ v, en = .returned (.tuple #[v, .bool (faOk n)]) ∧ OwnLL w' w.heap.size v (faA n)) ∧ Below w.heap.size w w' := by
  cases hg : inB n 1 1000000000 with
  | false =>
    have ho : faOk n = false := hg
    rw [faA_no ho, ho]
    clear ho
    go_enter Try.func29, Try.ntmps29
    go_wp2_with fail
    refine (isFactored_c _ _).mono ?_
    rintro e w1 ⟨rfl, rfl⟩
    go_wp2
    go_ret2
    exact ⟨⟨_, rfl, OwnLL.nil _ _⟩, (Below.refl _ _)⟩
  | true =>
    have ho : faOk n = true := hg
    obtain ⟨n1, n2⟩ := inB_true.1 hg
    obtain ⟨N, rfl⟩ := Int.eq_ofNat_of_zero_le (Int.le_trans (by omega) n1)
    rw [faA_yes ho, ho]
    clear ho
    have hN1 : 1 ≤ N := by omega
    have hN9 : N ≤ 1000000000 := by omega
    have hl29 := facs_len30 hN1 hN9
    have Hcn := Lib.hid (fun x (hx : x ∈ facs N) => count_pf (n := N) hx)
    have Hin := Lib.hid (facs_inc N)
    have Hlt := Lib.hid (facs_lt N hN1)
    obtain ⟨T, hT⟩ : ∃ T, flL N = T := ⟨_, rfl⟩
    obtain ⟨F, hF⟩ : ∃ F, facs N = F := ⟨_, rfl⟩
    have hTF : T = F.map pairI := by rw [← hT, ← hF]; rfl
    have hFk : fks N = F.map Prod.fst := by rw [← hF]; rfl
    rw [hT]
    rw [hF] at hl29 Hcn Hin Hlt
    have HTF := Lib.hid hTF
    have HFk := Lib.hid hFk
    clear hT hF hTF hFk
    have Hg := Lib.hid hg
    go_enter Try.func29, Try.ntmps29
    go_wp2_with fail
    refine (isFactored_c _ _).mono ?_
    rintro e w1 ⟨rfl, rfl⟩
    go_wp2_with fail
    refine (exponentsOf_c _ N hN1 hN9).mono ?_
    rintro e w2 ⟨rfl, ⟨D0, hown0, hK0, hC0⟩, b2⟩
    have hK2 := fks_keys hN1 hK0
    rw [HFk.out] at hK2
    have HK2 := Lib.hid hK2
    have HC0 := Lib.hid hC0
    have hs2 := b2.size
    have hsb := hown0.lt
    clear hK0 hK2 hC0
    go_wp2_with fail
    go_loopw [5] (fun vo wr => ∃ (post : List (Nat × Nat)) (L : List (List Int)) (D : DataW Unit), T = L ++ post.map pairI ∧ L.length + post.length ≤ 29 ∧ wr.ownsMap Try.prog 3 (plainElem Try.prog 3) w.heap.size N D ∧ KeysD D (post.map Prod.fst) ∧ (∀ x ∈ post, D.atKey (.int .i64 (x.1 : Int)) (.lit (.int .i64 0)) = .lit (.int .i64 (x.2 : Int))) ∧ post.Pairwise (fun x y => x.1 < y.1) ∧ (∀ x ∈ post, 2 ≤ x.1 ∧ x.1 ≤ 1000000000) ∧ OwnLL wr (w.heap.size + 1) vo L ∧ w.heap.size + 1 ≤ wr.heap.size ∧ Below w.heap.size w wr) (fun vo _ => 30 - slLen vo)
    case atStart => exact ⟨F, [], D0, HTF.out, by simpa using hl29, hown0, HK2.out, fun x hx => by rw [HC0.out x.1, Hcn.out x hx], Hin.out, fun x hx => by have := Hlt.out x hx; omega, OwnLL.nil _ _, hsb, b2⟩
    case round =>
      clear HK2 HC0 hown0 Hcn Hin Hlt
      obtain ⟨post, L, D, hTL, hll, hown, hK, hA, hPw, hB, hLL, hsz, hbel⟩ := hrel
      have HTL := Lib.hid hTL
      have HK := Lib.hid hK
      have HA := Lib.hid hA
      have HPw := Lib.hid hPw
      have HB := Lib.hid hB
      have HLL := Lib.hid hLL
      clear hTL hK hA hPw hB
      obtain ⟨Av, cv, rfl⟩ := hLL.shape
      clear hLL
      cases post with
      | nil =>
        have hz := size_zero hown HK.out
        have HTe : Hid (T = L) := by show _ = _; rw [HTL.out]; simp
        have Hz := Lib.hid hz
        clear hz
        go_wp2_with (first
          | (at_len; refine wpList_len_own _ rfl _ 116 rfl 3 3 Try.underlying116 _ _ _ _ rfl hown ?_; rw [Hz.out])
          | go_in)
        go_ret2
        exact ⟨⟨_, rfl, by rw [HTe.out]; exact OwnLL.mono HLL.out (Nat.le_succ _)⟩, hbel⟩
      | cons x post =>
        have hpos := size_pos hown.isMap HK.out (List.mem_cons_self ..)
        have hpw := List.pairwise_cons.1 HPw.out
        obtain ⟨hp2, hp9⟩ := HB.out x (List.mem_cons_self ..)
        have hx := HA.out x (List.mem_cons_self ..)
        obtain ⟨p, e⟩ := x
        have Hx := Lib.hid (hx : D.atKey (.int .i64 (p : Int)) (.lit (.int .i64 0)) = .lit (.int .i64 (e : Int)))
        have Hpos := Lib.hid (show (0 : Int) < (Maps.size D : Int) by omega)
        have hnin : p ∉ post.map Prod.fst := fun h => by
          obtain ⟨y, hy, h2⟩ := List.mem_map.1 h
          have := hpw.1 y hy
          omega
        have HK1 := Lib.hid (HK.out.del hnin)
        have HA1 := Lib.hid (fun y (hy : y ∈ post) => show (D.del (.int .i64 (p : Int))).atKey (.int .i64 (y.1 : Int)) (.lit (.int .i64 0)) = .lit (.int .i64 (y.2 : Int)) by
          rw [atKey_del_other (fun h => by have h2 := key_inj h; have := hpw.1 y hy; omega)]
          exact HA.out y (List.mem_cons_of_mem _ hy))
        have HPw1 := Lib.hid hpw.2
        have HB1 := Lib.hid (fun y (hy : y ∈ post) => HB.out y (List.mem_cons_of_mem _ hy))
        have Hlk := Lib.hid (fun W (ho : World.ownsMap W Try.prog 3 (plainElem Try.prog 3) w.heap.size N D) => leastKey_c W w.heap.size N D ho _ HK.out (by rw [List.Nodup, List.pairwise_map]; exact HPw.out.imp fun h e => by omega) (fun q hq => by obtain ⟨y, hy, rfl⟩ := List.mem_map.1 hq; exact (HB.out y hy).2) p (by simp) (fun q hq => by
          obtain ⟨y, hy, rfl⟩ := List.mem_map.1 hq
          rcases List.mem_cons.1 hy with h | h
          · rw [h]; exact Nat.le_refl _
          · exact Nat.le_of_lt (hpw.1 y h)))
        have hkey : keyOf Try.prog 3 (.int .i64 (p : Int)) = some (.int .i64 (p : Int)) := keyOf_int_mk Try.underlying3 (wfI (by omega) (by omega))
        have Hkey := Lib.hid hkey
        have hLl : L.length ≤ 28 := by rw [List.length_cons] at hll; omega
        have Hll : Hid (L.length + 1 + post.length ≤ 29) := by show _ ≤ _; rw [List.length_cons] at hll; omega
        clear hpos hpw hx hnin hkey hll
        go_wp2_with (first
          | (at_len; refine wpList_len_own _ rfl _ 116 rfl 3 3 Try.underlying116 _ _ _ _ rfl hown ?_; have hpos := Hpos.out)
          | fail)
        refine (Hlk.out _ hown).mono ?_
        rintro e' w3 ⟨rfl, b3⟩
        have hown3 := map_below hown b3 (Nat.le_refl _)
        have HLL3 := Lib.hid (HLL.out.below b3)
        have hs3 := b3.size
        have Ho2 := Lib.hid (own_two w3 (w.heap.size + 1) (Nat.le_trans hsz hs3) (p : Int) (e : Int))
        clear hown hpos
        go_wp2_with (first
          | (at_lookup; refine wpList_lookup_own_int _ rfl _ _ 116 rfl 3 3 .i64 keyI Try.underlying116 Try.underlying3 (zeroI _) w.heap.size N _ rfl hown3 _ _ rfl Hkey.out ?_; intro c hat hwc; obtain rfl : c = (e : Int) := int_lit_inj (hat.symm.trans Hx.out); clear hat hwc)
          | (at_builtin; go_loud (refine wp_app_ll _ _ rfl _ _ rfl (w.heap.size + 1) _ _ rfl w3 HLL3.out ((Below.refl _ _).alloc (Nat.le_refl _) _) _ Ho2.out (fun q hq => by simp [Value.ownBlock] at hq; omega) _ rfl (by simp) (by omega) (by simp; omega) ?_); intro v' w4 hown4 b4; have hmap4 := map_belowB (hown3.alloc _) b4 (Nat.lt_succ_self _); have hs4 := b4.size)
          | (at_delete; refine wpList_delete_own _ rfl _ _ 116 3 rfl 3 keyI Try.underlying116 _ w.heap.size N _ rfl hmap4 _ _ rfl Hkey.out ?_; intro w5 hown5 hturn5; go_frame)
          | go_in)
        go_roundw
        case rel =>
          have g5 := hturn5.grown
          have hb4 : Below w.heap.size w w4 := (((hbel.trans (b3.mono hbel.size)).alloc (Nat.le_trans hbel.size hs3) _)).trans (b4.mono (Nat.le_succ _))
          have hsz4 : w.heap.size + 1 ≤ w4.heap.size := by
            have := hs4
            simp at this
            omega
          exact ⟨post, L ++ [pairI (p, e)], _, by rw [HTL.out, List.append_assoc]; rfl, by rw [List.length_append, List.length_singleton]; exact Hll.out, hown5, HK1.out, HA1.out, HPw1.out, HB1.out, hown4.kept g5 (Nat.lt_succ_self _), Nat.le_trans hsz4 g5.size, hb4.grown g5 hb4.size (fun j hj => by cases hj; exact Nat.le_refl _)⟩
        case measure =>
          obtain ⟨A5, c5, rfl⟩ := hown4.shape
          simp only [slLen_is, List.length_append, List.length_singleton]
          first | omega | (simp [slLen]; omega) | trace_state

end Go.Proofs.Ytaapfapejekkfaa
