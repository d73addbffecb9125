import Derived.Test.YtihnlacajfakgaaE8
namespace Go.Proofs.Ytihnlacajfakgaa
open Go.RowKit
set_option linter.unusedVariables false
set_option linter.unusedSimpArgs false

/-- append(out, y) for a row of ints that the call owns: what else is owned is kept. -/
theorem wp_app_int2 {ops : Array Oper} {rest : List Oper} {o : Oper} {a : Act} {Q : Exit → Act → World → Prop} (w : World) (hgd : o.guard = none) (s x : Operand)
    (ho : o.op = .call { callee := .builtin .append, args := #[s, x], argTypes := #[22, 22] }) (B : Nat) (v : Value) (xs : List Int) (hs : a.eval s = v) (hown : OwnI w B v xs) (y : Int)
    (hx : a.eval x = .slice (some ⟨w.heap.size, 0, none⟩) 1 1) (hl : xs.length ≤ 1048576) (hB : B ≤ w.heap.size)
    (h : ∀ v' w', OwnI w' B v' (xs ++ [y]) → w.grownBy w' v.ownBlock → wpList Try.prog ops Q rest (a.put o.dst v') w') : wpList Try.prog ops Q (o :: rest) a (w.alloc (.cells #[.int .i64 y] 3)) := by
  obtain ⟨i0, hi, hz0, hz1, hz2⟩ := info_parts info_I
  refine wpList_append_own _ hgd s x 22 ho B 3 i0 _ 1 8 Try.underlying22 hi hz0 hz1 hz2 rfl (by decide) v _ _ hs (World.ownsRow.alloc hown _) ⟨w.heap.size, 0, none⟩ 1 1 [.int .i64 y] hx rfl ?_ ?_ (by unfold maxLen; omega) (by omega) (by simp; omega) ?_
  · intro j u hj
    cases j with
    | zero => simp at hj; subst hj; simp [Addr.add]
    | succ j => simp at hj
  · intro u hu
    simp at hu
    subst hu
    rfl
  · intro v' w' hown' hg _
    refine h v' w' ?_ (grown_trans (World.grownBy_alloc w _ _) hg)
    simpa [OwnI, List.map_append] using hown'
theorem OwnI.lt {w : World} {B : Nat} {v : Value} {xs : List Int} (h : OwnI w B v xs) : ∀ q, v.ownBlock = some q → B ≤ q ∧ q < w.heap.size := fun q hq => World.ownsRow.lt h q hq
theorem OwnI.apart {w w' : World} {H : Nat} {v u : Value} {xs : List Int} (h : OwnI w H u xs) (hg : w.grownBy w' v.ownBlock) (hv : ∀ q, v.ownBlock = some q → q < H) : OwnI w' H u xs :=
  World.ownsRow.kept h hg (by
    cases hu : u.ownBlock with
    | none => exact .inl rfl
    | some k =>
      refine .inr fun e => ?_
      have h1 := (World.ownsRow.lt h k hu).1
      have h2 := hv k e.symm
      omega)

/-- The order in which a circle is counted out. -/
def circF (K : Nat) : Nat → List Int → Nat → List Int
  | 0, _, _ => []
  | f + 1, L, a => ivL L ((a + K - 1) % L.length) :: circF K f (L.eraseIdx ((a + K - 1) % L.length)) ((a + K - 1) % L.length)
theorem circF_len (K : Nat) : ∀ f L a, (circF K f L a).length = f
  | 0, _, _ => rfl
  | f + 1, L, a => by rw [circF, List.length_cons, circF_len K f]
def circA (n k : Int) : List Int := if lastOk n k then circF k.toNat (upA 1 1 n).length (upA 1 1 n) 0 else []
theorem circA_no {n k : Int} (h : lastOk n k = false) : circA n k = [] := by rw [circA, h]; rfl
theorem circA_yes {n : Int} {K : Nat} (h : lastOk n (K : Int) = true) : circA n (K : Int) = circF K (upA 1 1 n).length (upA 1 1 n) 0 := by rw [circA, h, Int.toNat_natCast]; rfl
theorem circA_len (n k : Int) : (circA n k).length ≤ 1048576 := by
  rw [circA]
  split
  · rename_i h
    rw [lastOk, Bool.and_eq_true] at h
    have := inB_true.1 h.1
    have := upA_len (f := 1) (b := 1) (M := n) (by omega) (by omega) (by omega)
    rw [circF_len]
    omega
  · exact Nat.zero_le _
/-- One step of a circle. -/
theorem circ_step {K : Nat} {L out T : List Int} {a P : Nat} (h : T = out ++ circF K L.length L a) (hL : 0 < L.length) (hP : P = (a + K - 1) % L.length) :
    T = (out ++ [ivL L P]) ++ circF K (L.eraseIdx P).length (L.eraseIdx P) P := by
  have hp : P < L.length := by rw [hP]; exact Nat.mod_lt _ hL
  have e : L.length = (L.eraseIdx P).length + 1 := by rw [List.length_eraseIdx, if_pos hp]; omega
  rw [h, e, circF, ← hP]
  simp

set_option maxRecDepth 100000 in
set_option maxHeartbeats 1600000 in
theorem spec_CircleOut_c (w : World) (n k : Int) :
    Calls Try.prog 48 #[.int .i64 n, .int .i64 k] w fun en w' => (∃ v, en = .returned (.tuple #[v, .bool (lastOk n k)]) ∧ OwnI w' w.heap.size v (circA n k)) ∧ Below w.heap.size w w' := by
  cases hg : inB n 1 100 with
  | false =>
    have ho : lastOk n k = false := by simp [lastOk, *]
    rw [circA_no ho, ho]
    clear ho
    go_enter Try.func48, Try.ntmps48
    go_wp2_with fail
    refine (l1In_c _ _ _ _).mono ?_
    rintro e w1 ⟨rfl, rfl⟩
    go_wp2
    go_ret2
    exact ⟨⟨_, rfl, OwnI.nil _ _⟩, (Below.refl _ _)⟩
  | true =>
    cases hh : inB k 1 1000 with
    | false =>
      have ho : lastOk n k = false := by simp [lastOk, *]
      rw [circA_no ho, ho]
      clear ho
      go_enter Try.func48, Try.ntmps48
      go_wp2_with fail
      refine (l1In_c _ _ _ _).mono ?_
      rintro e w1 ⟨rfl, rfl⟩
      go_wp2_with fail
      refine (l1In_c _ _ _ _).mono ?_
      rintro e w2 ⟨rfl, rfl⟩
      go_wp2
      go_ret2
      exact ⟨⟨_, rfl, OwnI.nil _ _⟩, (Below.refl _ _)⟩
    | true =>
      have ho : lastOk n k = true := by simp [lastOk, *]
      obtain ⟨n1, n2⟩ := inB_true.1 hg
      obtain ⟨k1, k2⟩ := inB_true.1 hh
      obtain ⟨K, rfl⟩ := Int.eq_ofNat_of_zero_le (Int.le_trans (by omega) k1)
      rw [circA_yes ho, ho]
      clear ho
      have hu := upA_len (f := 1) (b := 1) (M := n) (by omega) (by omega) (by omega)
      obtain ⟨T, hT⟩ : ∃ T, T = circF K (upA 1 1 n).length (upA 1 1 n) 0 := ⟨_, rfl⟩
      rw [← hT]
      have HT := Lib.hid hT
      clear hT
      have Hg := Lib.hid hg
      have Hh := Lib.hid hh
      go_enter Try.func48, Try.ntmps48
      go_wp2_with fail
      refine (l1In_c _ _ _ _).mono ?_
      rintro e w1 ⟨rfl, rfl⟩
      go_wp2_with fail
      refine (l1In_c _ _ _ _).mono ?_
      rintro e w2 ⟨rfl, rfl⟩
      go_wp2_with fail
      refine (cnUp_c _ 1 1 n (by omega) (by omega) (by omega) (by omega) (by omega) (by omega)).mono ?_
      rintro e w3 ⟨⟨v3, rfl, o3⟩, b3⟩
      go_wp2
      go_loopw [6, 7, 8] (fun vl vo i wr => ∃ (L out : List Int) (a H : Nat), i = .int .i64 (a : Int) ∧ a ≤ 2000 ∧ L.length ≤ 101 ∧ out.length + L.length ≤ 101 ∧ T = out ++ circF K L.length L a ∧ OwnI wr H vl L ∧ OwnI wr w.heap.size vo out ∧ (∀ q, vo.ownBlock = some q → q < H) ∧ w.heap.size ≤ H ∧ H ≤ wr.heap.size ∧ Below w.heap.size w wr) (fun vl _ _ _ => match vl with | .slice _ m _ => m | _ => 0)
      case atStart => exact ⟨upA 1 1 n, [], 0, w.heap.size, rfl, by omega, by omega, by simp; omega, by simpa using HT.out, o3, OwnI.nil _ _, fun q h => by simp [Value.ownBlock] at h, Nat.le_refl _, b3.size, b3⟩
      case round =>
        obtain ⟨L, out, a, H, rfl, ha, hL, hlen, hT2, hown, hout, hq, hH, hH2, hbel⟩ := hrel
        have HT2 := Lib.hid hT2
        have Hout := Lib.hid hout
        have Hown := Lib.hid hown
        clear hT2 hout
        obtain ⟨A, c, rfl⟩ := hown.shape
        clear hown
        by_cases hlt : 0 < L.length
        · obtain ⟨g, rfl, hg1, hg2⟩ := own_form (OwnI.own_n Hown.out rfl) hlt
          obtain ⟨P, hP⟩ : ∃ P, P = (a + K - 1) % L.length := ⟨_, rfl⟩
          have hp : P < L.length := by rw [hP]; exact Nat.mod_lt _ hlt
          have HP := Lib.hid hP
          have e1 : ((a : Int) + (K : Int) - 1) % (L.length : Int) = (P : Int) := by
            rw [HP.out, Int.natCast_emod]
            congr 1
            omega
          have hz : ((L.length : Int) == 0) = false := beq_eq_false_iff_ne.2 (by omega)
          have hc0 := IsAt_of_own Hown.out P hp
          rw [Nat.zero_add] at hc0
          clear hP
          go_wp2_with (at_builtin; refine wp_app_int2 _ rfl _ _ rfl w.heap.size u7 _ rfl Hout.out _ rfl (by omega) (by omega) ?_; intro v4 w4 o4 g4)
          have oL := World.ownsRow.drew (OwnI.apart Hown.out g4 hq)
          have b4 : Below w.heap.size w w4.drew := (hbel.trans (below_of_grown g4 hbel.size fun q hq => (OwnI.lt Hout.out q hq).1)).drew
          have o4' := World.ownsRow.drew o4
          obtain ⟨hcap1, hcap2⟩ := own_cap oL
          have hmx : c ≤ 9223372036854775807 := hcap2
          obtain ⟨offA, hA, hAt⟩ : ∃ offA, (if c = P + 1 then some (⟨g, 0, none⟩ : Addr) else some ⟨g, P + 1, none⟩) = some ⟨g, offA, none⟩ ∧ Hid (IsAt w4.drew g offA (L.drop (P + 1))) := by
            by_cases h : c = P + 1
            · refine ⟨0, by simp [h], fun j hj => ?_⟩
              rw [List.length_drop] at hj
              omega
            · refine ⟨P + 1, by simp [h], ?_⟩
              have := (IsAt_of_own oL).drop (P + 1)
              rwa [Nat.zero_add] at this
          have hg4 : g < w4.drew.heap.size := (World.ownsRow.lt oL g rfl).2
          have Ht := Lib.hid ((IsAt_of_own oL).take P)
          have hl1 : Hid (P = (L.take P).length) := by show P = _; rw [List.length_take]; omega
          have hl2 : Hid (L.length - (P + 1) = (L.drop (P + 1)).length) := by show _ = _; rw [List.length_drop]
          have hl3 : Hid ((L.take P).length + (L.drop (P + 1)).length ≤ 1048576) := by show _ ≤ _; rw [List.length_take, List.length_drop]; omega
          have Hq4 := Lib.hid (OwnI.lt o4')
          have HT4 := Lib.hid (circ_step HT2.out hlt HP.out)
          have he : (L.eraseIdx P).length + 1 = L.length := by rw [List.length_eraseIdx, if_pos hp]; omega
          have Hol : Hid ((out ++ [ivL L P]).length + (L.eraseIdx P).length ≤ 101) := by show _ ≤ _; rw [List.length_append, List.length_singleton]; omega
          have He := Lib.hid he
          have hp0 : (0 : Int) ≤ (P : Int) := by omega
          have hp1 : (P : Int) ≤ (c : Int) := by omega
          have hp2 : (0 : Int) ≤ (P : Int) + 1 := by omega
          have hp3 : (P : Int) + 1 ≤ (L.length : Int) := by omega
          have hp4 : (L.length : Int) ≤ (c : Int) := by omega
          have hp5 : ((P : Int) + 1).toNat = P + 1 := by omega
          have hw : IntKind.i64.wrap ((P : Int) + 1) = (P : Int) + 1 := IntWalk.i64_in _ (by omega)
          have hB4 : H ≤ w4.drew.heap.size := by have := g4.size; show H ≤ w4.heap.size; omega
          have Ho4 := Lib.hid o4'
          clear oL o4 o4' g4 hc0 he e1
          go_region_held3 (fun _ => True) (first | exact trivial | trivial) (first | (go_at_call 73; refine (l1Own_c _ g 0 _ P (L.take P) hg4 Ht.out hl1.out (by omega)).mono ?_; rintro e w5 ⟨⟨v5, rfl, o5⟩, b5⟩; have Ht5 := Lib.hid (hAt.out.below hg4 b5); have b45 := b4.trans (b5.mono b4.size); have hs5 := b5.size; have Ho5 := Lib.hid (OwnI.below Ho4.out b5)) | (refine step_app_ints w5 (by rfl) (.tmp 39) (.tmp 43) (by rfl) w4.drew.heap.size v5 (L.take P) (by rfl) o5 g offA _ _ (L.drop (P + 1)) (by rfl) hl2.out Ht5.out hl3.out hs5 ?_; intro v6 w6 o6 g6))
          go_wp2
          go_roundw
          case rel =>
            have eE : L.take P ++ L.drop (P + 1) = L.eraseIdx P := (List.eraseIdx_eq_take_drop_succ ..).symm
            rw [eE] at o6
            have b6 := b45.trans (below_of_grown g6 b45.size fun q hq => by have := (OwnI.lt o5 q hq).1; omega)
            have o64 := World.ownsRow.kept Ho5.out g6 (by
              cases hv : v4.ownBlock with
              | none => exact .inl rfl
              | some q => exact .inr fun e => by have h1 := (OwnI.lt o5 q e.symm).1; have h2 := (Hq4.out q hv).2; omega)
            exact ⟨L.eraseIdx P, out ++ [ivL L P], P, w4.drew.heap.size, rfl, by omega, by have := He.out; omega, Hol.out, HT4.out, o6, o64, fun q hq => (Hq4.out q hq).2, Nat.le_trans hH hB4, Nat.le_trans hs5 g6.size, b6⟩
          case measure =>
            obtain ⟨A6, c6, rfl⟩ := o6.shape
            have := He.out
            simp
            omega
        · have h0 : L = [] := List.eq_nil_of_length_eq_zero (by omega)
          have hTo : T = out := by rw [HT2.out, h0]; simp [circF]
          have HTo := Lib.hid hTo
          clear hTo
          go_wp2
          go_ret2
          exact ⟨⟨_, rfl, by rw [HTo.out]; exact Hout.out⟩, hbel⟩

set_option maxRecDepth 100000 in
set_option maxHeartbeats 1600000 in
theorem impl_CircleOut_c (w : World) (n k : Int) :
    Calls Try.prog 49 #[.int .i64 n, .int .i64 k] w fun en w' => (∃ v, en = .returned (.tuple #[v, .bool (lastOk n k)]) ∧ OwnI w' w.heap.size v (circA n k)) ∧ Below w.heap.size w w' := by
  cases ho : lastOk n k with
  | false =>
    rw [circA_no ho]
    go_enter Try.func49, Try.ntmps49
    go_wp2_with fail
    refine (isCircle_c _ _ _).mono ?_
    rintro e w1 ⟨rfl, rfl⟩
    go_wp2
    go_ret2
    exact ⟨⟨_, rfl, OwnI.nil _ _⟩, (Below.refl _ _)⟩
  | true =>
    obtain ⟨n1, n2⟩ : 1 ≤ n ∧ n ≤ 100 := inB_true.1 (by rw [lastOk, Bool.and_eq_true] at ho; exact ho.1)
    obtain ⟨k1, k2⟩ : 1 ≤ k ∧ k ≤ 1000 := inB_true.1 (by rw [lastOk, Bool.and_eq_true] at ho; exact ho.2)
    obtain ⟨K, rfl⟩ := Int.eq_ofNat_of_zero_le (Int.le_trans (by omega) k1)
    rw [circA_yes ho]
    have hu := upA_len (f := 1) (b := 1) (M := n) (by omega) (by omega) (by omega)
    obtain ⟨T, hT⟩ : ∃ T, T = circF K (upA 1 1 n).length (upA 1 1 n) 0 := ⟨_, rfl⟩
    rw [← hT]
    have HT := Lib.hid hT
    clear hT
    have Ho := Lib.hid ho
    go_enter Try.func49, Try.ntmps49
    go_wp2_with fail
    refine (isCircle_c _ _ _).mono ?_
    rintro e w1 ⟨rfl, rfl⟩
    go_wp2_with fail
    refine (numbersBetween_c _ 1 n 1 (by omega) (by omega) (by omega) (by omega) (by omega) (by omega)).mono ?_
    rintro e w2 ⟨⟨v2, rfl, o2⟩, b2⟩
    have hb2 := b2.size
    go_wp2
    go_loopw [6, 7, 8] (fun vl vo i wr => ∃ (L out : List Int) (a : Nat), i = .int .i64 (a : Int) ∧ a ≤ 2000 ∧ L.length ≤ 101 ∧ out.length + L.length ≤ 101 ∧ T = out ++ circF K L.length L a ∧ OwnI wr w.heap.size vl L ∧ (∀ q, vl.ownBlock = some q → q < w2.heap.size) ∧ OwnI wr w2.heap.size vo out ∧ w2.heap.size ≤ wr.heap.size ∧ Below w.heap.size w wr) (fun vl _ _ _ => match vl with | .slice _ m _ => m | _ => 0)
    case atStart => exact ⟨upA 1 1 n, [], 0, rfl, by omega, by omega, by simp; omega, by simpa using HT.out, o2, fun q hq => (OwnI.lt o2 q hq).2, OwnI.nil _ _, Nat.le_refl _, b2⟩
    case round =>
      obtain ⟨L, out, a, rfl, ha, hL, hlen, hT2, hown, hq, hout, hh2, hbel⟩ := hrel
      have HT2 := Lib.hid hT2
      have Hout := Lib.hid hout
      have Hown := Lib.hid hown
      clear hT2 hout
      obtain ⟨A, c, rfl⟩ := hown.shape
      clear hown
      by_cases hlt : 0 < L.length
      · obtain ⟨g, rfl, hg1, hg2⟩ := own_form (OwnI.own_n Hown.out rfl) hlt
        obtain ⟨P, hP⟩ : ∃ P, P = (a + K - 1) % L.length := ⟨_, rfl⟩
        have hp : P < L.length := by rw [hP]; exact Nat.mod_lt _ hlt
        have HP := Lib.hid hP
        have e1 : ((a : Int) + (K : Int) - 1) % (L.length : Int) = (P : Int) := by
          rw [HP.out, Int.natCast_emod]
          congr 1
          omega
        have hz : ((L.length : Int) == 0) = false := beq_eq_false_iff_ne.2 (by omega)
        have hc0 := IsAt_of_own Hown.out P hp
        rw [Nat.zero_add] at hc0
        clear hP
        have hgq : g < w2.heap.size := hq g rfl
        go_wp2_with (at_builtin; refine wp_app_int2 _ rfl _ _ rfl w2.heap.size u7 _ rfl Hout.out _ rfl (by omega) (by omega) ?_; intro v4 w4 o4 g4; have hvq := fun q (hq : u7.ownBlock = some q) => (OwnI.lt Hout.out q hq).1; have oL : OwnI w4 w.heap.size (.slice (some ⟨g, 0, none⟩) L.length c) L := World.ownsRow.kept Hown.out g4 (.inr fun e => by have := hvq g e.symm; omega); have b4 : Below w.heap.size w w4 := hbel.trans (below_of_grown g4 hbel.size fun q hq => Nat.le_trans hb2 (hvq q hq)); have h24 : w2.heap.size ≤ w4.heap.size := Nat.le_trans hh2 g4.size; clear g4)
        have HT4 := Lib.hid (circ_step HT2.out hlt HP.out)
        have hv4 := Lib.hid (OwnI.lt o4)
        have hs4 := (World.ownsRow.lt oL g rfl).2
        have he : (L.eraseIdx P).length = L.length - 1 := by rw [List.length_eraseIdx, if_pos hp]
        have He := Lib.hid he
        have Hol : Hid ((out ++ [ivL L P]).length + (L.eraseIdx P).length ≤ 101) := by show _ ≤ _; rw [List.length_append, List.length_singleton]; omega
        have H24 := Lib.hid h24
        clear he
        go_wp2_with fail
        refine (delete_i w4 w.heap.size g L.length c P L oL rfl hp).mono ?_
        rintro e w6 ⟨rfl, o6, g6⟩
        go_wp2
        go_roundw
        case rel =>
          have b6 := b4.trans (below_of_grown g6 b4.size fun q hq => by injection hq with hq; omega)
          have o46 := World.ownsRow.kept o4 g6 (by
            cases hv : v4.ownBlock with
            | none => exact .inl rfl
            | some q => exact .inr fun e => by injection e with e; have h1 := (hv4.out q hv).1; omega)
          exact ⟨L.eraseIdx P, out ++ [ivL L P], P, rfl, by omega, by have := He.out; omega, Hol.out, HT4.out, o6, fun q hq => by simp [Value.ownBlock] at hq; omega, o46, Nat.le_trans H24.out g6.size, b6⟩
        case measure =>
          simp
          omega
      · have h0 : L = [] := List.eq_nil_of_length_eq_zero (by omega)
        have hTo : T = out := by rw [HT2.out, h0]; simp [circF]
        have HTo := Lib.hid hTo
        clear hTo
        go_wp2
        go_ret2
        exact ⟨⟨_, rfl, by rw [HTo.out]; exact OwnI.mono Hout.out hb2⟩, hbel⟩

end Go.Proofs.Ytihnlacajfakgaa
