import Derived.Test.YtbgoimhgmgldpaaRC
import Derived.Test.YtbgoimhgmgldpaaRJ
namespace Go.Proofs.Ytbgoimhgmgldpaa
open Go.RowKit
set_option linter.unusedVariables false
set_option linter.unusedSimpArgs false

set_option maxRecDepth 100000 in
set_option maxHeartbeats 1600000 in
theorem crossersOf_c (A : Option Addr) (m c : Nat) (rs : List (Int × Int)) (k : Nat) (w : World) (hA : Rl w A rs) (hm : m = rs.length) (hn : m ≤ 1000) (hk : k ≤ 48) (h60 : ∀ q, q < rs.length → 2 ≤ evL rs q ∧ evL rs q ≤ 60) :
    Calls Try.prog 81 #[.slice A m c, .int .i64 ((k : Int) + 1)] w fun en w' => (∃ v, en = .returned v ∧ OwnR w' w.heap.size v (thL rs k rs.length)) ∧ Below w.heap.size w w' := by
  have HA := Lib.hid hA
  have Hm := Lib.hid hm
  have H60 := Lib.hid h60
  clear hA hm h60
  go_enter Try.func81, Try.ntmps81
  go_wp2
  go_loopw [5, 10] (fun v i wr => ∃ q : Nat, q ≤ m ∧ i = .int .i64 (q : Int) ∧ OwnR wr w.heap.size v (thL rs k q) ∧ Below w.heap.size w wr) (fun _ i _ => m - (intOf i).toNat)
  case atStart => exact ⟨0, Nat.zero_le _, rfl, World.ownsRow_nil _ _ _ _, Below.refl _ _⟩
  case round =>
    obtain ⟨q, hq, rfl, hown, hbel⟩ := hrel
    have Hown := Lib.hid hown
    have hlen := thL_len rs k q
    rw [← Hm.out] at hlen
    have hs := hbel.size
    clear hown
    by_cases hql : q < m
    · have hql1 : q < rs.length := by rw [← Hm.out]; exact hql
      have hqi : (q : Int) < (m : Int) := by omega
      obtain ⟨b0, off, rfl, hbb, hrd⟩ := (HA.out) (by omega)
      have hx0 := (hbel.cell (p := ⟨b0, off + q * 2, none⟩) hbb).trans (hrd q hql1).1
      have hx1 := (hbel.cell (p := ⟨b0, off + q * 2 + 1, none⟩) hbb).trans (hrd q hql1).2
      obtain ⟨e1, e2⟩ := H60.out q hql1
      have Hty := Lib.hid (fun h => thL_yes (i := k) hql1 h)
      have Htn := Lib.hid (fun h => thL_no (i := k) hql1 h)
      obtain ⟨x, hx⟩ : ∃ x, evL rs q = x := ⟨_, rfl⟩
      obtain ⟨y, hy⟩ : ∃ y, reL rs q = y := ⟨_, rfl⟩
      rw [hx] at hx0 Hty Htn e1 e2
      rw [hy] at hx1 Hty Htn
      have Hc := fun W2 => crosses_c x y ((k : Int) + 1) W2 (by omega) (by omega) e1 e2
      obtain ⟨U, hU⟩ : ∃ U, wr.alloc (.cells #[.int .i64 x, .int .i64 y] 53) = U := ⟨_, rfl⟩
      have hu0 : U.cell? ⟨wr.heap.size, 0, none⟩ = some (.int .i64 x) := by rw [← hU]; simp
      have hu1 : U.cell? ⟨wr.heap.size, 1, none⟩ = some (.int .i64 y) := by rw [← hU]; simp
      have hus : wr.heap.size < U.heap.size := by rw [← hU]; simp
      have hub : Below w.heap.size w U := by rw [← hU]; exact hbel.alloc hs _
      have hou := World.ownsRow.alloc Hown.out (.cells #[.int .i64 x, .int .i64 y] 53)
      rw [hU] at hou
      have Hub := Lib.hid hub
      have Hou : Hid (OwnR U w.heap.size _ (thL rs k q)) := hou
      have Hus := Lib.hid hus
      have HU := Lib.hid hU
      clear hU hub hou hbel hx hy hus
      cases hc : crossF x y ((k : Int) + 1) with
      | true =>
        have Hy := Lib.hid (Hty.out (crossF_true.1 hc))
        rw [hc] at Hc
        have HC := Lib.hid Hc
        clear hc Hc
        go_wp2_with fail
        rw [HU.out]
        clear HU hx0 hx1
        refine (HC.out _).mono ?_
        rintro e w5 ⟨rfl, b5⟩
        have hv0 := (b5.cell (p := ⟨wr.heap.size, 0, none⟩) Hus.out).trans hu0
        have hv1 := (b5.cell (p := ⟨wr.heap.size, 1, none⟩) Hus.out).trans hu1
        have hb5 := Hub.out.trans (b5.mono Hub.out.size)
        have Ho5 := Lib.hid (show OwnR w5 w.heap.size _ (thL rs k q) from own_below Hou.out b5)
        have hs5 := hb5.size
        clear hu0 hu1
        go_wp2_with (at_builtin; refine wp_app_rule _ rfl _ _ rfl w.heap.size _ _ rfl Ho5.out _ _ rfl (by omega) hs5 ?_; intro v' w6 hown2 b6)
        go_roundw
        case rel => exact ⟨q + 1, by omega, by go_num, by rw [Hy.out]; exact hown2, hb5.trans b6⟩
        case measure => simp [intOf]; omega
      | false =>
        have Hy := Lib.hid (Htn.out (crossF_false.1 hc))
        rw [hc] at Hc
        have HC := Lib.hid Hc
        clear hc Hc
        go_wp2_with fail
        rw [HU.out]
        clear HU hx0 hx1
        refine (HC.out _).mono ?_
        rintro e w5 ⟨rfl, b5⟩
        have hb5 := Hub.out.trans (b5.mono Hub.out.size)
        have Ho5 := Lib.hid (show OwnR w5 w.heap.size _ (thL rs k q) from own_below Hou.out b5)
        clear hu0 hu1
        go_wp2
        go_roundw
        case rel => exact ⟨q + 1, by omega, by go_num, by rw [Hy.out]; exact Ho5.out, hb5⟩
        case measure => simp [intOf]; omega
    · have Hq := Lib.hid (show q = rs.length by have := Hm.out; omega)
      have hqm : ¬ (q : Int) < (m : Int) := by omega
      go_wp2
      go_ret
      exact ⟨⟨_, rfl, by rw [← Hq.out]; exact Hown.out⟩, hbel⟩
set_option maxRecDepth 100000 in
set_option maxHeartbeats 3000000 in
theorem impl_HintOf_c (w : World) (s : ByteArray) (n : Int) (hs : (s.size : Int) ≤ 1000000000) :
    Calls Try.prog 46 #[.agg #[.string s, .int .i64 n]] w fun en w' => en = .returned (.tuple #[.int .i64 (hnI (hnF s n)), .agg #[.int .i64 (hnE s (hnF s n)), .int .i64 (hnR s (hnF s n))], .bool (hnB (hnF s n))]) ∧ Below w.heap.size w w' := by
  have Hrt := Lib.hid (fun W => impl_RulesThatFit_c W s n hs)
  obtain ⟨W0, hW0⟩ : ∃ W0, (w.alloc (.cells #[.string s, .int .i64 n] 26)).alloc (.cells #[.int .i64 0, .int .i64 0] 53) = W0 := ⟨_, rfl⟩
  have B0 : Hid (Below w.heap.size w W0) := by show Below _ _ _; rw [← hW0]; exact ((Below.refl _ _).alloc (Nat.le_refl _) _).alloc (by simp) _
  have R0 : Hid (W0.heap[w.heap.size]? = some (.cells #[.string s, .int .i64 n] 26 (0, 0))) := by show _ = _; rw [← hW0]; exact (((Below.refl _ _).alloc (Nat.le_refl _) _).block w.heap.size (by simp)).trans (heap_alloc_new _ _)
  have R1 : Hid (W0.heap[w.heap.size + 1]? = some (.cells #[.int .i64 0, .int .i64 0] 53 (0, 0))) := by show _ = _; rw [← hW0]; exact by simpa using heap_alloc_new (w.alloc (.cells #[.string s, .int .i64 n] 26)) (.cells #[.int .i64 0, .int .i64 0] 53)
  have Z0 : Hid (W0.heap.size = w.heap.size + 2) := by show _ = _; rw [← hW0]; simp
  have HW0 := Lib.hid hW0
  clear hW0
  cases hg : pzB s n with
  | false =>
    rw [show hnF s n = none by rw [hnF, hg]; rfl]
    rw [hg, rtV_no hg] at Hrt
    clear hg
    go_enter Try.func46, Try.ntmps46
    go_wp2_with fail
    rw [HW0.out]
    refine (Hrt.out _).mono ?_
    rintro e w2 ⟨⟨v2, rfl, o2⟩, b2⟩
    have B2 := Lib.hid (B0.out.trans (b2.mono B0.out.size))
    have hb1 := (b2.block (w.heap.size + 1) (by rw [Z0.out]; omega)).trans R1.out
    have hc0 : w2.cell? ⟨w.heap.size + 1, 0, none⟩ = some (.int .i64 0) := cell_of_row w2 (w.heap.size + 1) 0 _ _ _ hb1
    have hc1 : w2.cell? ⟨w.heap.size + 1, 1, none⟩ = some (.int .i64 0) := cell_of_row w2 (w.heap.size + 1) 1 _ _ _ hb1
    have hf := fun k => frozen_of_row w2 (w.heap.size + 1) k _ _ hb1
    clear b2 hb1
    go_wp2
    refine bodyPost_ret (v := .tuple #[.int .i64 0, .agg #[.int .i64 0, .int .i64 0], .bool false]) (by rw [results_tct rfl]; go_simp) rfl ⟨rfl, ?_⟩
    first | exact B2.out | exact (B2.out.setCell (Nat.le_add_right _ _) _).setCell (Nat.le_add_right _ _) _
  | true =>
    rw [show hnF s n = hnO s by rw [hnF, hg]; rfl]
    have hp : patB s = true := pzB_pat hg
    rw [hg, rtV_yes hg] at Hrt
    obtain ⟨p1, p2, p3⟩ := patB_parts hp
    have Hyes := Lib.hid (fun k (hk : k < s.size) h hl => hnO_at (k := k) hk h hl)
    have Hno := Lib.hid (hnO_none (s := s))
    obtain ⟨o, ho⟩ : ∃ o, hnO s = o := ⟨_, rfl⟩
    rw [ho] at Hyes Hno ⊢
    clear hg ho hp p3
    go_enter Try.func46, Try.ntmps46
    go_wp2_with fail
    rw [HW0.out]
    refine (Hrt.out _).mono ?_
    rintro e w3 ⟨⟨v, rfl, o3⟩, b3⟩
    obtain ⟨A, c, rfl⟩ := OwnR.shape o3
    have B3 := Lib.hid (B0.out.trans (b3.mono B0.out.size))
    have ra3 := (b3.block w.heap.size (by rw [Z0.out]; omega)).trans R0.out
    have rb3 := (b3.block (w.heap.size + 1) (by rw [Z0.out]; omega)).trans R1.out
    have z3 : w.heap.size + 2 ≤ w3.heap.size := by have := b3.size; rw [Z0.out] at this; exact this
    have RA3 := Lib.hid ra3
    have RB3 := Lib.hid rb3
    have Z3 := Lib.hid z3
    have RL3 := Lib.hid (Rl_of_own o3 rfl)
    have H60 : Hid (∀ q, q < (fitL s).length → 2 ≤ evL (fitL s) q ∧ evL (fitL s) q ≤ 60) := fun q hq => by
      obtain ⟨e, r, g1, g2, g3, g4, g5⟩ := ftA_mem (s := s) (x := (fitL s)[q]) (n := 9) (List.getElem_mem hq)
      have g6 := (pair_at hq).symm.trans g4
      have g7 : evL (fitL s) q = (e : Int) := congrArg Prod.fst g6
      omega
    have hl90 := fitL_len s
    obtain ⟨l, hl⟩ : ∃ l, (fitL s).length = l := ⟨_, rfl⟩
    rw [hl] at hl90 ⊢
    have Hl := Lib.hid hl
    clear b3 ra3 rb3 z3 o3 hl
    go_wp2
    go_loopw [7] (fun i wr => ∃ (k : Nat), i = .int .i64 ((k : Int) + 1) ∧ Below w3.heap.size w3 wr ∧ k ≤ s.size ∧ ∀ j, j < k → hnA s j = false) (fun i _ => s.size + 2 - (intOf i).toNat)
    case atStart => exact ⟨0, rfl, Below.refl _ _, Nat.zero_le _, fun j h => by omega⟩
    case round =>
      obtain ⟨k, rfl, hB, hk, hall⟩ := hrel
      have Hall := Lib.hid hall
      have HBG := Lib.hid hB
      have hs3 := hB.size
      clear hall
      have hc0 : wr.cell? ⟨w.heap.size, 0, none⟩ = some (.string s) := (hB.cell (p := ⟨w.heap.size, 0, none⟩) (by have := Z3.out; simp; omega)).trans (cell_of_row w3 w.heap.size 0 _ _ _ RA3.out)
      by_cases hlt : k < s.size
      · have hby := byN_at hlt
        obtain ⟨b, hb⟩ : ∃ b, byN s k = b := ⟨_, rfl⟩
        have Hb := Lib.hid hb
        rw [hb] at hby
        have hki : (k : Int) + 1 ≤ (s.size : Int) := by omega
        have hki2 : (k : Int) < (s.size : Int) := by omega
        have hk0 : (0 : Int) ≤ (k : Int) := Int.natCast_nonneg k
        have hRL := RL3.out.below hB
        clear hb hB
        by_cases h1 : b = 120
        · subst h1
          have HCr := Lib.hid (crossersOf_c A l c (fitL s) k wr hRL Hl.out.symm (by omega) (by omega) H60.out)
          clear hRL
          go_wp2_with fail
          refine HCr.out.mono ?_
          rintro e w4 ⟨⟨v4, rfl, o4⟩, b4⟩
          have HT : Hid (thL (fitL s) k (fitL s).length = thA s k) := by show _ = _; rw [thA]
          rw [HT.out] at o4
          obtain ⟨A2, c2, rfl⟩ := OwnR.shape o4
          have hlen := thL_len (fitL s) k (fitL s).length
          rw [HT.out, Hl.out] at hlen
          have Hr9 := Lib.hid (Rl_of_own o4 rfl)
          have HhL := Lib.hid (fun h => hnA_len (s := s) (k := k) h)
          have HhY := Lib.hid (fun h => hnA_yes (s := s) (k := k) Hb.out h)
          obtain ⟨m9, hm9⟩ : ∃ m9, (thA s k).length = m9 := ⟨_, rfl⟩
          rw [hm9] at HhL HhY hlen ⊢
          have Hm9 := Lib.hid hm9
          have HB4 := Lib.hid (HBG.out.trans (b4.mono hs3))
          clear o4 hm9 b4 hc0
          by_cases h9 : m9 = 1
          · have HT2 := Lib.hid (Hyes.out k hlt (HhY.out h9) Hall.out)
            subst h9
            obtain ⟨b9, off9, rfl, hb9, hr9⟩ := Hr9.out (by rw [Hm9.out]; omega)
            have hy0 := (hr9 0 (by rw [Hm9.out]; omega)).1
            have hy1 := (hr9 0 (by rw [Hm9.out]; omega)).2
            have HO : Hid (hnE s o = evL (thA s k) 0 ∧ hnR s o = reL (thA s k) 0 ∧ hnI o = (k : Int) + 1 ∧ hnB o = true) := by show _ ∧ _; rw [HT2.out]; exact ⟨rfl, rfl, rfl, rfl⟩
            obtain ⟨x, hx⟩ : ∃ x, evL (thA s k) 0 = x := ⟨_, rfl⟩
            obtain ⟨y, hy⟩ : ∃ y, reL (thA s k) 0 = y := ⟨_, rfl⟩
            rw [hx] at hy0 HO
            rw [hy] at hy1 HO
            simp only [Nat.zero_mul, Nat.add_zero] at hy0 hy1
            have hRB : w4.heap[w.heap.size + 1]? = some (.cells #[.int .i64 0, .int .i64 0] 53 (0, 0)) := (HB4.out.block (w.heap.size + 1) (by have := Z3.out; omega)).trans RB3.out
            have hc0 : w4.cell? ⟨w.heap.size + 1, 0, none⟩ = some (.int .i64 0) := cell_of_row w4 (w.heap.size + 1) 0 _ _ _ hRB
            have hc1 : w4.cell? ⟨w.heap.size + 1, 1, none⟩ = some (.int .i64 0) := cell_of_row w4 (w.heap.size + 1) 1 _ _ _ hRB
            have hf := fun k => frozen_of_row w4 (w.heap.size + 1) k _ _ hRB
            have HBW := Lib.hid (B3.out.trans (HB4.out.mono (by have := Z3.out; omega)))
            clear hRB hx hy hr9
            go_wp2_with fail
            go_region
            go_wp2
            refine bodyPost_ret (v := .tuple #[.int .i64 ((k : Int) + 1), .agg #[.int .i64 x, .int .i64 y], .bool true]) (by rw [results_tct rfl]; go_simp) rfl ⟨by rw [HO.out.1, HO.out.2.1, HO.out.2.2.1, HO.out.2.2.2], ?_⟩
            exact ((HBW.out.setCell (Nat.le_add_right _ _) _).setCell (Nat.le_add_right _ _) _).drew
          · have HhF := Lib.hid (HhL.out h9)
            have h9b : ((m9 : Int) == 1) = false := beq_eq_false_iff_ne.2 (by omega)
            have h9c : (m9 == 1) = false := beq_eq_false_iff_ne.2 h9
            clear h9
            go_wp2
            go_roundw
            case rel => exact ⟨k + 1, by go_num, HB4.out, by omega, fun j hj => by
              rcases Nat.lt_succ_iff_lt_or_eq.1 hj with h | h
              · exact Hall.out j h
              · rw [h]; exact HhF.out⟩
            case measure => simp [intOf]; omega
        · have Hf := Lib.hid (hnA_sign Hb.out h1)
          have hbi : ((b : Int) == 120) = false := beq_eq_false_iff_ne.2 (by omega)
          have hbd : ((b : Int) != 120) = true := by rw [bne, hbi]; rfl
          clear h1
          go_wp2
          go_roundw
          case rel =>
            exact ⟨k + 1, by go_num, HBG.out, by omega, fun j hj => by
              rcases Nat.lt_succ_iff_lt_or_eq.1 hj with h | h
              · exact Hall.out j h
              · rw [h]; exact Hf.out⟩
          case measure => simp [intOf]; omega
      · have HT := Lib.hid (Hno.out fun j hj => Hall.out j (by omega))
        have hki : ¬ (k : Int) + 1 ≤ (s.size : Int) := by omega
        have hRB : wr.heap[w.heap.size + 1]? = some (.cells #[.int .i64 0, .int .i64 0] 53 (0, 0)) := (hB.block (w.heap.size + 1) (by have := Z3.out; omega)).trans RB3.out
        have hd0 : wr.cell? ⟨w.heap.size + 1, 0, none⟩ = some (.int .i64 0) := cell_of_row wr (w.heap.size + 1) 0 _ _ _ hRB
        have hd1 : wr.cell? ⟨w.heap.size + 1, 1, none⟩ = some (.int .i64 0) := cell_of_row wr (w.heap.size + 1) 1 _ _ _ hRB
        have hf := fun k => frozen_of_row wr (w.heap.size + 1) k _ _ hRB
        have HBW := Lib.hid (B3.out.trans (hB.mono (by have := Z3.out; omega)))
        clear hRB hB
        go_wp2
        refine bodyPost_ret (v := .tuple #[.int .i64 0, .agg #[.int .i64 0, .int .i64 0], .bool false]) (by rw [results_tct rfl]; go_simp) rfl ⟨by rw [HT.out]; rfl, ?_⟩
        first | exact HBW.out | exact (HBW.out.setCell (Nat.le_add_right _ _) _).setCell (Nat.le_add_right _ _) _

end Go.Proofs.Ytbgoimhgmgldpaa
