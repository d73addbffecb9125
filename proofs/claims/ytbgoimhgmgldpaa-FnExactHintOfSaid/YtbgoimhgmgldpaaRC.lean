import Derived.Test.YtbgoimhgmgldpaaR6
import Derived.Test.YtbgoimhgmgldpaaR9
import Derived.RegionTactic
namespace Go.Proofs.Ytbgoimhgmgldpaa
open Go.RowKit
set_option linter.unusedVariables false
set_option linter.unusedSimpArgs false

/-- Of the first q rules of a list those that cross out the number at i. -/
def thL (L : List (Int × Int)) (i q : Nat) : List (Int × Int) := (L.take q).filter fun x => decide (restF ((i : Int) + 1) x.1 = x.2)
theorem pair_at {L : List (Int × Int)} {q : Nat} (h : q < L.length) : L[q] = (evL L q, reL L q) := by
  simp [evL, reL, List.getD_eq_getElem?_getD, List.getElem?_eq_getElem h]
theorem thL_yes {L : List (Int × Int)} {i q : Nat} (hq : q < L.length) (h : restF ((i : Int) + 1) (evL L q) = reL L q) : thL L i (q + 1) = thL L i q ++ [(evL L q, reL L q)] := by
  rw [thL, List.take_succ_eq_append_getElem hq, List.filter_append, pair_at hq, thL]
  simp [h]
theorem thL_no {L : List (Int × Int)} {i q : Nat} (hq : q < L.length) (h : restF ((i : Int) + 1) (evL L q) ≠ reL L q) : thL L i (q + 1) = thL L i q := by
  rw [thL, List.take_succ_eq_append_getElem hq, List.filter_append, pair_at hq, thL]
  simp [h]
theorem thL_len (L : List (Int × Int)) (i q : Nat) : (thL L i q).length ≤ L.length := by
  rw [thL]
  exact Nat.le_trans (List.length_filter_le _ _) (by rw [List.length_take]; omega)
def thA (s : ByteArray) (i : Nat) : List (Int × Int) := thL (fitL s) i (fitL s).length
def hnA (s : ByteArray) (i : Nat) : Bool := byN s i == 120 && decide ((thA s i).length = 1)
def hnO (s : ByteArray) : Option Nat := (List.range s.size).find? (hnA s)
theorem hnO_at {s : ByteArray} {k : Nat} (hk : k < s.size) (h : hnA s k = true) (hl : ∀ j, j < k → hnA s j = false) : hnO s = some k := by
  rw [hnO, List.find?_range_eq_some]
  exact ⟨h, List.mem_range.2 hk, fun j hj => by rw [hl j hj]; rfl⟩
theorem hnO_none {s : ByteArray} (hl : ∀ j, j < s.size → hnA s j = false) : hnO s = none := by
  rw [hnO, List.find?_range_eq_none]
  exact fun j hj => by rw [hl j hj]; rfl
theorem hnA_sign {s : ByteArray} {k b : Nat} (hb : byN s k = b) (h : b ≠ 120) : hnA s k = false := by rw [hnA, hb, beq_eq_false_iff_ne.2 h]; rfl
theorem hnA_len {s : ByteArray} {k : Nat} (h : (thA s k).length ≠ 1) : hnA s k = false := by rw [hnA, decide_eq_false h, Bool.and_false]
theorem hnA_yes {s : ByteArray} {k : Nat} (hb : byN s k = 120) (h : (thA s k).length = 1) : hnA s k = true := by rw [hnA, hb, decide_eq_true h]; rfl
/-- The hint of a puzzle: the place of its number; the number, the rule, whether there is one. -/
def hnF (s : ByteArray) (n : Int) : Option Nat := if pzB s n then hnO s else none
def hnI : Option Nat → Int
  | some i => (i : Int) + 1
  | none => 0
def hnE (s : ByteArray) : Option Nat → Int
  | some i => evL (thA s i) 0
  | none => 0
def hnR (s : ByteArray) : Option Nat → Int
  | some i => reL (thA s i) 0
  | none => 0
def hnB (o : Option Nat) : Bool := o.isSome
theorem results_tct {fn : Func} {a p u : Tmp} {ty : TypeId} (h : fn.results = #[.tmp a, .cell p ty, .tmp u]) (tmps : Array Value) (P : Program) (w : World) :
    (results fn tmps).run P w =
      ((asAddr (tmps.getD p undef)).run P w).andThen fun x w₁ => ((loadVar ty x).run P w₁).andThen fun v w₂ => .ok (.tuple #[tmps.getD a undef, v, tmps.getD u undef]) w₂ := by
  simp only [results, h]
  simp [Sem.run_bind, Result.andThen]
set_option maxRecDepth 100000 in
set_option maxHeartbeats 3000000 in
theorem spec_HintOf_c (w : World) (s : ByteArray) (n : Int) (hs : (s.size : Int) ≤ 1000000000) :
    Calls Try.prog 45 #[.agg #[.string s, .int .i64 n]] w fun en w' => en = .returned (.tuple #[.int .i64 (hnI (hnF s n)), .agg #[.int .i64 (hnE s (hnF s n)), .int .i64 (hnR s (hnF s n))], .bool (hnB (hnF s n))]) ∧ Below w.heap.size w w' := by
  have Hpg := Lib.hid (fun W => pzGood_c W s n hs)
  obtain ⟨W0, hW0⟩ : ∃ W0, (w.alloc (.cells #[.string s, .int .i64 n] 26)).alloc (.cells #[.int .i64 0, .int .i64 0] 53) = W0 := ⟨_, rfl⟩
  have B0 : Hid (Below w.heap.size w W0) := by show Below _ _ _; rw [← hW0]; exact ((Below.refl _ _).alloc (Nat.le_refl _) _).alloc (by simp) _
  have R0 : Hid (W0.heap[w.heap.size]? = some (.cells #[.string s, .int .i64 n] 26 (0, 0))) := by show _ = _; rw [← hW0]; exact (((Below.refl _ _).alloc (Nat.le_refl _) _).block w.heap.size (by simp)).trans (heap_alloc_new _ _)
  have R1 : Hid (W0.heap[w.heap.size + 1]? = some (.cells #[.int .i64 0, .int .i64 0] 53 (0, 0))) := by show _ = _; rw [← hW0]; exact by simpa using heap_alloc_new (w.alloc (.cells #[.string s, .int .i64 n] 26)) (.cells #[.int .i64 0, .int .i64 0] 53)
  have Z0 : Hid (W0.heap.size = w.heap.size + 2) := by show _ = _; rw [← hW0]; simp
  have HW0 := Lib.hid hW0
  clear hW0
  cases hg : pzB s n with
  | false =>
    rw [show hnF s n = none by rw [hnF, hg]; rfl]
    rw [hg] at Hpg
    clear hg
    go_enter Try.func45, Try.ntmps45
    go_wp2_with fail
    rw [HW0.out]
    refine (Hpg.out _).mono ?_
    rintro e w2 ⟨rfl, b2⟩
    have B2 := Lib.hid (B0.out.trans (b2.mono B0.out.size))
    have hb1 := (b2.block (w.heap.size + 1) (by rw [Z0.out]; omega)).trans R1.out
    have hc0 : w2.cell? ⟨w.heap.size + 1, 0, none⟩ = some (.int .i64 0) := cell_of_row w2 (w.heap.size + 1) 0 _ _ _ hb1
    have hc1 : w2.cell? ⟨w.heap.size + 1, 1, none⟩ = some (.int .i64 0) := cell_of_row w2 (w.heap.size + 1) 1 _ _ _ hb1
    have hf := fun k => frozen_of_row w2 (w.heap.size + 1) k _ _ hb1
    clear b2 hb1
    go_wp2
    refine bodyPost_ret (v := .tuple #[.int .i64 0, .agg #[.int .i64 0, .int .i64 0], .bool false]) (by rw [results_tct rfl]; go_simp) rfl ⟨rfl, ?_⟩
    first | exact B2.out | exact (B2.out.setCell (Nat.le_add_right _ _) _).setCell (Nat.le_add_right _ _) _
  | true =>
    rw [show hnF s n = hnO s by rw [hnF, hg]; rfl]
    have hp : patB s = true := pzB_pat hg
    rw [hg] at Hpg
    have Hft := Lib.hid (fun W => pzFit_c W s hp)
    obtain ⟨p1, p2, p3⟩ := patB_parts hp
    have Hp3 := Lib.hid p3
    have Hyes := Lib.hid (fun k (hk : k < s.size) h hl => hnO_at (k := k) hk h hl)
    have Hno := Lib.hid (hnO_none (s := s))
    obtain ⟨o, ho⟩ : ∃ o, hnO s = o := ⟨_, rfl⟩
    rw [ho] at Hyes Hno ⊢
    clear hg ho hp p3
    go_enter Try.func45, Try.ntmps45
    go_wp2_with fail
    rw [HW0.out]
    refine (Hpg.out _).mono ?_
    rintro e w2 ⟨rfl, b2⟩
    have B2 := Lib.hid (B0.out.trans (b2.mono B0.out.size))
    have ra := (b2.block w.heap.size (by rw [Z0.out]; omega)).trans R0.out
    have rb := (b2.block (w.heap.size + 1) (by rw [Z0.out]; omega)).trans R1.out
    have z2 : w.heap.size + 2 ≤ w2.heap.size := by have := b2.size; rw [Z0.out] at this; exact this
    have hc0 : w2.cell? ⟨w.heap.size, 0, none⟩ = some (.string s) := cell_of_row w2 w.heap.size 0 _ _ _ ra
    have RA := Lib.hid ra
    have RB := Lib.hid rb
    have Z2 := Lib.hid z2
    clear b2 ra rb z2
    go_wp2_with fail
    refine (Hft.out _).mono ?_
    rintro e w3 ⟨⟨v, rfl, o3⟩, b3⟩
    obtain ⟨A, c, rfl⟩ := OwnR.shape o3
    have B3 := Lib.hid (B2.out.trans (b3.mono B2.out.size))
    have ra3 := (b3.block w.heap.size (by have := Z2.out; omega)).trans RA.out
    have rb3 := (b3.block (w.heap.size + 1) (by have := Z2.out; omega)).trans RB.out
    have z3 : w.heap.size + 2 ≤ w3.heap.size := Nat.le_trans Z2.out b3.size
    have hd0 : w3.cell? ⟨w.heap.size, 0, none⟩ = some (.string s) := cell_of_row w3 w.heap.size 0 _ _ _ ra3
    have RA3 := Lib.hid ra3
    have RB3 := Lib.hid rb3
    have Z3 := Lib.hid z3
    have RL3 := Lib.hid (Rl_of_own o3 rfl)
    obtain ⟨l, hl⟩ : ∃ l, (fitL s).length = l := ⟨_, rfl⟩
    have hl90 := fitL_len s
    rw [hl] at hl90
    rw [hl]
    have Hl := Lib.hid hl
    clear b3 ra3 rb3 z3 o3 hc0 hl
    go_wp2
    obtain ⟨G, hG⟩ : ∃ G, w3.heap.size = G := ⟨_, rfl⟩
    have hI0 := World.iter_heap w3 s 0
    have hB0 : Below G w3 (w3.iter s 0) := by rw [← hG]; exact (Below.refl _ _).alloc (Nat.le_refl _) _
    rw [hG] at hI0 Z3 ⊢
    have GW := Lib.hid hG
    clear hG
    go_loopw [6] (fun _ wr => ∃ (k : Nat), wr.heap[G]? = some (.stringIter s k) ∧ Below G w3 wr ∧ k ≤ s.size ∧ ∀ j, j < k → hnA s j = false) (fun _ wr => s.size - wr.iterPos G)
    case atStart => exact ⟨0, hI0, hB0, Nat.zero_le _, fun j h => by omega⟩
    case round =>
      clear hI0 hB0 hd0
      obtain ⟨k, hit, hB, hk, hall⟩ := hrel
      have Hall := Lib.hid hall
      have hm0 := iterPos_of hit
      have Hm0 := Lib.hid hm0
      clear hall hm0
      by_cases hlt : k < s.size
      · have hby := byN_at hlt
        have hsg := sgB_iff.1 (Hp3.out k hlt)
        obtain ⟨b, hb⟩ : ∃ b, byN s k = b := ⟨_, rfl⟩
        have Hb := Lib.hid hb
        rw [hb] at hby hsg
        have hki : (k : Int) < (s.size : Int) := by omega
        have hk0 : (0 : Int) ≤ (k : Int) := Int.natCast_nonneg k
        have hnx : ∀ ty, (Instr.next (.pointer (some ⟨G, 0, none⟩)) true ty).run Try.prog wr = .ok (.tuple #[.bool true, .int .i64 (k : Int), .int .i32 ((s[k]'hlt).toNat : Int)]) (setIt wr G s (k + 1)) := fun ty => next_in hit ty hlt (by omega)
        have hit2 : (setIt wr G s (k + 1)).heap[G]? = some (.stringIter s (k + 1)) := setIt_at hit
        have hB2 := setIt_below hB (Nat.le_refl _) s (k + 1)
        obtain ⟨V, hV⟩ : ∃ V, setIt wr G s (k + 1) = V := ⟨_, rfl⟩
        rw [hV] at hnx hit2 hB2
        have hc0 : V.cell? ⟨w.heap.size, 0, none⟩ = some (.string s) := (hB2.cell (p := ⟨w.heap.size, 0, none⟩) (by have := Z3.out; simp; omega)).trans (cell_of_row w3 w.heap.size 0 _ _ _ RA3.out)
        have Hlt := Lib.hid (iter_lt hit2)
        have Hit2 := Lib.hid hit2
        have HB2 := Lib.hid hB2
        clear hV hb hit hB hit2 hB2
        by_cases h1 : b = 120
        · subst h1
          clear hsg
          go_wp2
          have Hc0 := Lib.hid hc0
          clear hnx hc0
          go_loopw [7, 30] (fun v i wr2 => ∃ q : Nat, q ≤ l ∧ i = .int .i64 (q : Int) ∧ OwnR wr2 (G + 1) v (thL (fitL s) k q) ∧ Below (G + 1) V wr2) (fun _ i _ => l - (intOf i).toNat)
          case atStart => exact ⟨0, Nat.zero_le _, rfl, World.ownsRow_nil _ _ _ _, Below.refl _ _⟩
          case round =>
            obtain ⟨q, hq, rfl, hown, hbel⟩ := hrel
            have Hown := Lib.hid hown
            have Hbel := Lib.hid hbel
            have hs1 : G + 1 ≤ wr.heap.size := Nat.le_trans (show G + 1 ≤ V.heap.size from Hlt.out) hbel.size
            have hBG : Below G w3 wr := HB2.out.trans (hbel.mono (Nat.le_succ _))
            have HBG := Lib.hid hBG
            have hlen := thL_len (fitL s) k q
            rw [Hl.out] at hlen
            clear hown
            by_cases hql : q < l
            · have hql1 : q < (fitL s).length := by rw [Hl.out]; exact hql
              have hqi : (q : Int) < (l : Int) := by omega
              obtain ⟨b0, off, hA, hbb, hrd⟩ := (RL3.out) (by omega)
              rw [GW.out] at hbb
              have hx0 := (hBG.cell (p := ⟨b0, off + q * 2, none⟩) hbb).trans (hrd q hql1).1
              have hx1 := (hBG.cell (p := ⟨b0, off + q * 2 + 1, none⟩) hbb).trans (hrd q hql1).2
              have Hmem : Hid (2 ≤ evL (fitL s) q ∧ evL (fitL s) q ≤ 60) := by
                show _ ∧ _
                obtain ⟨e, r, g1, g2, g3, g4, g5⟩ := ftA_mem (s := s) (x := (fitL s)[q]) (n := 9) (List.getElem_mem hql1)
                have g6 := (pair_at hql1).symm.trans g4
                have g7 : evL (fitL s) q = (e : Int) := congrArg Prod.fst g6
                omega
              have Hty := Lib.hid (fun h => thL_yes (i := k) hql1 h)
              have Htn := Lib.hid (fun h => thL_no (i := k) hql1 h)
              obtain ⟨x, hx⟩ : ∃ x, evL (fitL s) q = x := ⟨_, rfl⟩
              obtain ⟨y, hy⟩ : ∃ y, reL (fitL s) q = y := ⟨_, rfl⟩
              rw [hx] at hx0 Hty Htn Hmem
              rw [hy] at hx1 Hty Htn
              obtain ⟨e1, e2⟩ := Hmem.out
              have Hsr := Lib.hid (fun W2 => siRest_c ((k : Int) + 1) x W2 (by omega) (by omega) e1 e2)
              have hw : IntKind.i64.wrap ((k : Int) + 1) = (k : Int) + 1 := IntWalk.i64_in _ (by omega)
              obtain ⟨U, hU⟩ : ∃ U, wr.alloc (.cells #[.int .i64 x, .int .i64 y] 53) = U := ⟨_, rfl⟩
              have hu0 : U.cell? ⟨wr.heap.size, 0, none⟩ = some (.int .i64 x) := by rw [← hU]; simp
              have hu1 : U.cell? ⟨wr.heap.size, 1, none⟩ = some (.int .i64 y) := by rw [← hU]; simp
              have hub : Below (G + 1) V U := by rw [← hU]; exact hbel.alloc hs1 _
              have hus : G + 1 ≤ U.heap.size := by rw [← hU]; simp; omega
              have hou := World.ownsRow.alloc Hown.out (.cells #[.int .i64 x, .int .i64 y] 53)
              rw [hU] at hou
              have Hub := Lib.hid hub
              have Hou : Hid (OwnR U.drew (G + 1) _ (thL (fitL s) k q)) := World.ownsRow.drew hou
              have HUs : Hid (G + 1 ≤ U.drew.heap.size) := hus
              have hu0d : U.drew.cell? ⟨wr.heap.size, 0, none⟩ = some (.int .i64 x) := hu0
              have hu1d : U.drew.cell? ⟨wr.heap.size, 1, none⟩ = some (.int .i64 y) := hu1
              have HU := Lib.hid hU
              obtain ⟨z, hz⟩ : ∃ z, restF ((k : Int) + 1) x = z := ⟨_, rfl⟩
              rw [hz] at Hty Htn
              simp only [hz] at Hsr
              subst hA
              clear hU hub hus hou hbel hx hy hBG hz
              by_cases hzy : z = y
              · have Hy := Lib.hid (Hty.out hzy)
                have hzb : (z == y) = true := beq_iff_eq.2 hzy
                clear hzy
                go_wp2_with fail
                rw [HU.out]
                clear HU hx0 hx1
                go_region_held3 (fun w' => w'.cell? ⟨wr.heap.size, 0, none⟩ = some (.int .i64 x) ∧ w'.cell? ⟨wr.heap.size, 1, none⟩ = some (.int .i64 y))
                  (first | exact ⟨hu0d, hu1d⟩ | exact ⟨hu0, hu1⟩ | go_keep)
                  (first | (go_at_call 80; refine (Hsr.out _).mono ?_; rintro e w5 ⟨rfl, rfl⟩))
                go_wp2_with (at_builtin; refine wp_app_rule _ rfl _ _ rfl (G + 1) _ _ rfl Hou.out _ _ rfl (by omega) HUs.out ?_; intro v' w6 hown2 b6)
                go_roundw
                case rel => exact ⟨q + 1, by omega, by go_num, by rw [Hy.out]; exact hown2, Hub.out.drew.trans b6⟩
                case measure => simp [intOf]; omega
              · have Hy := Lib.hid (Htn.out hzy)
                have hzb : (z == y) = false := beq_eq_false_iff_ne.2 hzy
                clear hzy
                go_wp2_with fail
                rw [HU.out]
                clear HU hx0 hx1
                go_region_held3 (fun w' => w'.cell? ⟨wr.heap.size, 0, none⟩ = some (.int .i64 x) ∧ w'.cell? ⟨wr.heap.size, 1, none⟩ = some (.int .i64 y))
                  (first | exact ⟨hu0d, hu1d⟩ | exact ⟨hu0, hu1⟩ | go_keep)
                  (first | (go_at_call 80; refine (Hsr.out _).mono ?_; rintro e w5 ⟨rfl, rfl⟩))
                go_wp2
                go_roundw
                case rel => exact ⟨q + 1, by omega, by go_num, by rw [Hy.out]; exact Hou.out, Hub.out.drew⟩
                case measure => simp [intOf]; omega
            · have hqe : q = l := by omega
              have HT : Hid (thL (fitL s) k q = thA s k) := by show _ = _; rw [thA, Hl.out, hqe]
              have hown9 := Hown.out
              rw [HT.out] at hown9 hlen
              obtain ⟨A2, c2, rfl⟩ := OwnR.shape hown9
              have Hr9 := Lib.hid (Rl_of_own hown9 rfl)
              have HhL := Lib.hid (fun h => hnA_len (s := s) (k := k) h)
              have HhY := Lib.hid (fun h => hnA_yes (s := s) (k := k) Hb.out h)
              have HE : Hid (∀ k', some k' = some k → hnE s (some k') = evL (thA s k) 0 ∧ hnR s (some k') = reL (thA s k) 0) := fun k' h => by cases h; exact ⟨rfl, rfl⟩
              have hql2 : (l : Int) ≤ (q : Int) := by omega
              obtain ⟨m9, hm9⟩ : ∃ m9, (thA s k).length = m9 := ⟨_, rfl⟩
              rw [hm9] at HhL HhY hlen ⊢
              have Hm9 := Lib.hid hm9
              clear hown9 hm9 hqe hbel hBG
              by_cases h9 : m9 = 1
              · have HT2 := Lib.hid (Hyes.out k hlt (HhY.out h9) Hall.out)
                subst h9
                obtain ⟨b9, off9, rfl, hb9, hr9⟩ := Hr9.out (by rw [Hm9.out]; omega)
                have hy0 := (hr9 0 (by rw [Hm9.out]; omega)).1
                have hy1 := (hr9 0 (by rw [Hm9.out]; omega)).2
                have HO : Hid (hnE s o = evL (thA s k) 0 ∧ hnR s o = reL (thA s k) 0 ∧ hnI o = (k : Int) + 1 ∧ hnB o = true) := by show _ ∧ _; rw [HT2.out]; exact ⟨rfl, rfl, rfl, rfl⟩
                obtain ⟨x, hx⟩ : ∃ x, evL (thA s k) 0 = x := ⟨_, rfl⟩
                obtain ⟨y, hy⟩ : ∃ y, reL (thA s k) 0 = y := ⟨_, rfl⟩
                rw [hx] at hy0 HO
                rw [hy] at hy1 HO
                simp only [Nat.zero_mul, Nat.add_zero] at hy0 hy1
                have hw : IntKind.i64.wrap ((k : Int) + 1) = (k : Int) + 1 := IntWalk.i64_in _ (by omega)
                have hRB : wr.heap[w.heap.size + 1]? = some (.cells #[.int .i64 0, .int .i64 0] 53 (0, 0)) := (HBG.out.block (w.heap.size + 1) (by have := Z3.out; omega)).trans RB3.out
                have hc0 : wr.cell? ⟨w.heap.size + 1, 0, none⟩ = some (.int .i64 0) := cell_of_row wr (w.heap.size + 1) 0 _ _ _ hRB
                have hc1 : wr.cell? ⟨w.heap.size + 1, 1, none⟩ = some (.int .i64 0) := cell_of_row wr (w.heap.size + 1) 1 _ _ _ hRB
                have hf := fun k => frozen_of_row wr (w.heap.size + 1) k _ _ hRB
                have HBW := Lib.hid (B3.out.trans (HBG.out.mono (by have := Z3.out; omega)))
                clear hRB hx hy hr9
                go_wp2_with fail
                go_region
                go_wp2
                refine bodyPost_ret (v := .tuple #[.int .i64 ((k : Int) + 1), .agg #[.int .i64 x, .int .i64 y], .bool true]) (by rw [results_tct rfl]; go_simp) rfl ⟨by rw [HO.out.1, HO.out.2.1, HO.out.2.2.1, HO.out.2.2.2], ?_⟩
                exact ((HBW.out.setCell (Nat.le_add_right _ _) _).setCell (Nat.le_add_right _ _) _).drew
              · have HhF := Lib.hid (HhL.out h9)
                have h9b : ((m9 : Int) == 1) = false := beq_eq_false_iff_ne.2 (by omega)
                have h9c : (m9 == 1) = false := beq_eq_false_iff_ne.2 h9
                have hit5 : wr.heap[G]? = some (.stringIter s (k + 1)) := (Hbel.out.block G (Nat.lt_succ_self _)).trans Hit2.out
                have Hit5 := Lib.hid hit5
                clear hit5 h9
                go_wp2
                go_roundw
                case rel => exact ⟨k + 1, Hit5.out, HBG.out, by omega, fun j hj => by
                  rcases Nat.lt_succ_iff_lt_or_eq.1 hj with h | h
                  · exact Hall.out j h
                  · rw [h]; exact HhF.out⟩
                case measure => rw [Hm0.out, iterPos_of Hit5.out]; omega
        · have Hf := Lib.hid (hnA_sign Hb.out h1)
          have hbi : ((b : Int) == 120) = false := beq_eq_false_iff_ne.2 (by omega)
          have hbd : ((b : Int) != 120) = true := by rw [bne, hbi]; rfl
          clear h1 hsg
          go_wp2
          go_roundw
          case rel =>
            exact ⟨k + 1, Hit2.out, HB2.out, by omega, fun j hj => by
              rcases Nat.lt_succ_iff_lt_or_eq.1 hj with h | h
              · exact Hall.out j h
              · rw [h]; exact Hf.out⟩
          case measure => rw [Hm0.out, iterPos_of Hit2.out]; omega
      · have HT := Lib.hid (Hno.out fun j hj => Hall.out j (by omega))
        have hnx : ∀ ty, (Instr.next (.pointer (some ⟨G, 0, none⟩)) true ty).run Try.prog wr = .ok (.tuple #[.bool false]) wr := fun ty => next_end hit ty hlt
        have hRB : wr.heap[w.heap.size + 1]? = some (.cells #[.int .i64 0, .int .i64 0] 53 (0, 0)) := (hB.block (w.heap.size + 1) (by have := Z3.out; omega)).trans RB3.out
        have hc0 : wr.cell? ⟨w.heap.size + 1, 0, none⟩ = some (.int .i64 0) := cell_of_row wr (w.heap.size + 1) 0 _ _ _ hRB
        have hc1 : wr.cell? ⟨w.heap.size + 1, 1, none⟩ = some (.int .i64 0) := cell_of_row wr (w.heap.size + 1) 1 _ _ _ hRB
        have hf := fun k => frozen_of_row wr (w.heap.size + 1) k _ _ hRB
        have HBW := Lib.hid (B3.out.trans (hB.mono (by have := Z3.out; omega)))
        clear hRB hit hB
        go_wp2
        refine bodyPost_ret (v := .tuple #[.int .i64 0, .agg #[.int .i64 0, .int .i64 0], .bool false]) (by rw [results_tct rfl]; go_simp) rfl ⟨by rw [HT.out]; rfl, ?_⟩
        first | exact HBW.out | exact (HBW.out.setCell (Nat.le_add_right _ _) _).setCell (Nat.le_add_right _ _) _
end Go.Proofs.Ytbgoimhgmgldpaa
