import Derived.Test.YtbgoimhgmgldpaaR5
import Derived.Test.YtbgoimhgmgldpaaR2
import Derived.Test.YtbgoimhgmgldpaaM0
import Derived.Laws.ResultCell
namespace Go.Proofs.Ytbgoimhgmgldpaa
open Go.RowKit
set_option linter.unusedVariables false
set_option linter.unusedSimpArgs false

/-- The next number. -/
def nz (z : Nat) : Nat := (z * 177 + 2221) % 10007
theorem nz_lt (z : Nat) : nz z < 10007 := Nat.mod_lt _ (by omega)
/-- The rules that are made: so many, in at most so many rounds. -/
def mkR (n : Nat) : Nat → Nat → List (Int × Int) → List (Int × Int)
  | 0, _, rs => rs
  | f + 1, z, rs => if rs.length < n then mkR n f (nz (nz z)) (if hsR rs ((nz z % 9 + 2 : Nat) : Int) ((nz (nz z) % (nz z % 9 + 2) : Nat) : Int) then rs else rs ++ [(((nz z % 9 + 2 : Nat) : Int), ((nz (nz z) % (nz z % 9 + 2) : Nat) : Int))]) else rs
theorem mkR_stop {n f z : Nat} {rs : List (Int × Int)} (h : ¬ rs.length < n) : mkR n f z rs = rs := by
  cases f with
  | zero => rfl
  | succ f => rw [mkR, if_neg h]
theorem mkR_old {n f z e q : Nat} {rs : List (Int × Int)} (h : rs.length < n) (he : nz z % 9 + 2 = e) (hq : nz (nz z) % e = q) (hh : hsR rs (e : Int) (q : Int) = true) : mkR n (f + 1) z rs = mkR n f (nz (nz z)) rs := by
  subst he hq
  rw [mkR, if_pos h, if_pos hh]
theorem mkR_new {n f z e q : Nat} {rs : List (Int × Int)} (h : rs.length < n) (he : nz z % 9 + 2 = e) (hq : nz (nz z) % e = q) (hh : hsR rs (e : Int) (q : Int) = false) : mkR n (f + 1) z rs = mkR n f (nz (nz z)) (rs ++ [((e : Int), (q : Int))]) := by
  subst he hq
  rw [mkR, if_pos h, if_neg (by rw [hh]; decide)]
def mpOk (m n z : Int) : Bool := inB m 1 48 && inB n 0 3 && inB z 0 9999
def mpL (n z : Int) : List (Int × Int) := mkR n.toNat 20 z.toNat []
def mpB (m n z : Int) : Bool := mpOk m n z && decide (¬ (mpL n z).length < n.toNat)
def mpS (m n z : Int) : ByteArray := if mpB m n z then ptV (mpL n z) m else ⟨#[]⟩
def mpN (m n z : Int) : Int := if mpB m n z then n else 0
theorem mpS_no {m n z : Int} (h : mpB m n z = false) : mpS m n z = ⟨#[]⟩ := by rw [mpS, h]; rfl
theorem mpN_no {m n z : Int} (h : mpB m n z = false) : mpN m n z = 0 := by rw [mpN, h]; rfl
theorem mpS_yes {m n z : Int} (h : mpB m n z = true) : mpS m n z = ptV (mpL n z) m := by rw [mpS, h]; rfl
theorem mpN_yes {m n z : Int} (h : mpB m n z = true) : mpN m n z = n := by rw [mpN, h]; rfl
theorem frozen_block {w : World} {g k : Nat} {cs : Array Value} {t : TypeId} (h : w.heap[g]? = some (.cells cs t (0, 0))) : w.frozen? ⟨g, k, none⟩ = false := frozen_of_row w g k cs t h
set_option maxRecDepth 100000 in
set_option maxHeartbeats 2000000 in
theorem spec_MakePuzzle_c (w : World) (m n z : Int) :
    Calls Try.prog 53 #[.int .i64 m, .int .i64 n, .int .i64 z] w fun en w' => en = .returned (.tuple #[.agg #[.string (mpS m n z), .int .i64 (mpN m n z)], .bool (mpB m n z)]) ∧ Below w.heap.size w w' := by
  have hb := heap_alloc_new w (.cells #[.string ⟨#[]⟩, .int .i64 0] 26)
  have b0 : Below w.heap.size w (w.alloc (.cells #[.string ⟨#[]⟩, .int .i64 0] 26)) := (Below.refl _ _).alloc (Nat.le_refl _) _
  have hsz : (w.alloc (.cells #[.string ⟨#[]⟩, .int .i64 0] 26)).heap.size = w.heap.size + 1 := by simp
  have Hb := Lib.hid hb
  have B0 := Lib.hid b0
  have Hsz := Lib.hid hsz
  clear hb b0 hsz
  cases h1 : inB m 1 48 with
  | false =>
    have ho : mpB m n z = false := by simp [mpB, mpOk, h1]
    rw [mpS_no ho, mpN_no ho, ho]
    have H1 := Lib.hid h1
    clear ho h1
    go_enter Try.func53, Try.ntmps53
    go_wp2_with fail
    refine (l1In_c _ _ _ _).mono ?_
    rw [H1.out]
    rintro e w2 ⟨rfl, rfl⟩
    go_wp2
    refine bodyPost_ret (v := .tuple #[.agg #[.string ⟨#[]⟩, .int .i64 0], .bool false]) (by rw [results_cell_tmp rfl]; go_simp) rfl ⟨rfl, ?_⟩
    first | exact B0.out | exact (B0.out.setCell (Nat.le_refl _) _).setCell (Nat.le_refl _) _
  | true =>
    cases h2 : inB n 0 3 with
    | false =>
      have ho : mpB m n z = false := by simp [mpB, mpOk, h2]
      rw [mpS_no ho, mpN_no ho, ho]
      have H1 := Lib.hid h1
      have H2 := Lib.hid h2
      clear ho h1 h2
      go_enter Try.func53, Try.ntmps53
      go_wp2_with fail
      refine (l1In_c _ _ _ _).mono ?_
      rw [H1.out]
      rintro e w2 ⟨rfl, rfl⟩
      go_wp2_with fail
      refine (l1In_c _ _ _ _).mono ?_
      rw [H2.out]
      rintro e w2 ⟨rfl, rfl⟩
      go_wp2
      refine bodyPost_ret (v := .tuple #[.agg #[.string ⟨#[]⟩, .int .i64 0], .bool false]) (by rw [results_cell_tmp rfl]; go_simp) rfl ⟨rfl, ?_⟩
      first | exact B0.out | exact (B0.out.setCell (Nat.le_refl _) _).setCell (Nat.le_refl _) _
    | true =>
      cases h3 : inB z 0 9999 with
      | false =>
        have ho : mpB m n z = false := by simp [mpB, mpOk, h3]
        rw [mpS_no ho, mpN_no ho, ho]
        have H1 := Lib.hid h1
        have H2 := Lib.hid h2
        have H3 := Lib.hid h3
        clear ho h1 h2 h3
        go_enter Try.func53, Try.ntmps53
        go_wp2_with fail
        refine (l1In_c _ _ _ _).mono ?_
        rw [H1.out]
        rintro e w2 ⟨rfl, rfl⟩
        go_wp2_with fail
        refine (l1In_c _ _ _ _).mono ?_
        rw [H2.out]
        rintro e w2 ⟨rfl, rfl⟩
        go_wp2_with fail
        refine (l1In_c _ _ _ _).mono ?_
        rw [H3.out]
        rintro e w2 ⟨rfl, rfl⟩
        go_wp2
        refine bodyPost_ret (v := .tuple #[.agg #[.string ⟨#[]⟩, .int .i64 0], .bool false]) (by rw [results_cell_tmp rfl]; go_simp) rfl ⟨rfl, ?_⟩
        first | exact B0.out | exact (B0.out.setCell (Nat.le_refl _) _).setCell (Nat.le_refl _) _
      | true =>
        obtain ⟨m1, m9⟩ := inB_true.1 h1
        obtain ⟨n1, n9⟩ := inB_true.1 h2
        obtain ⟨z1, z9⟩ := inB_true.1 h3
        obtain ⟨N, rfl⟩ := Int.eq_ofNat_of_zero_le n1
        obtain ⟨Z, rfl⟩ := Int.eq_ofNat_of_zero_le z1
        have hO : mpOk m (N : Int) (Z : Int) = true := by rw [mpOk, h1, h2, h3]; rfl
        have hBd : mpB m (N : Int) (Z : Int) = decide (¬ (mkR N 20 Z []).length < N) := by rw [mpB, hO, mpL, Int.toNat_natCast, Int.toNat_natCast, Bool.true_and]
        have hLd : mpL (N : Int) (Z : Int) = mkR N 20 Z [] := by rw [mpL, Int.toNat_natCast, Int.toNat_natCast]
        have Hn := Lib.hid (fun h => (⟨mpS_no (m := m) (n := (N : Int)) (z := (Z : Int)) h, mpN_no (m := m) (n := (N : Int)) (z := (Z : Int)) h⟩ : _ ∧ _))
        have Hy := Lib.hid (fun h => (⟨mpS_yes (m := m) (n := (N : Int)) (z := (Z : Int)) h, mpN_yes (m := m) (n := (N : Int)) (z := (Z : Int)) h⟩ : _ ∧ _))
        rw [hLd] at Hy
        obtain ⟨T, hT⟩ : ∃ T, mkR N 20 Z [] = T := ⟨_, rfl⟩
        rw [hT] at hBd Hy
        have HT := Lib.hid hT
        have HB := Lib.hid hBd
        obtain ⟨S, hS⟩ : ∃ S, mpS m (N : Int) (Z : Int) = S := ⟨_, rfl⟩
        obtain ⟨U, hU⟩ : ∃ U, mpN m (N : Int) (Z : Int) = U := ⟨_, rfl⟩
        obtain ⟨V, hV⟩ : ∃ V, mpB m (N : Int) (Z : Int) = V := ⟨_, rfl⟩
        rw [hS, hU, hV] at Hn Hy
        rw [hV] at HB
        rw [hS, hU, hV]
        have H1 := Lib.hid h1
        have H2 := Lib.hid h2
        have H3 := Lib.hid h3
        have N9 : N ≤ 3 := by omega
        have Z9 : Z ≤ 9999 := by omega
        clear h1 h2 h3 m1 m9 n1 n9 z1 z9 hO hBd hLd hT hS hU hV
        go_enter Try.func53, Try.ntmps53
        go_wp2_with fail
        refine (l1In_c _ _ _ _).mono ?_
        rw [H1.out]
        rintro e w2 ⟨rfl, rfl⟩
        go_wp2_with fail
        refine (l1In_c _ _ _ _).mono ?_
        rw [H2.out]
        rintro e w2 ⟨rfl, rfl⟩
        go_wp2_with fail
        refine (l1In_c _ _ _ _).mono ?_
        rw [H3.out]
        rintro e w2 ⟨rfl, rfl⟩
        go_wp2
        obtain ⟨W0, hW0⟩ : ∃ W0, w.alloc (.cells #[.string ⟨#[]⟩, .int .i64 0] 26) = W0 := ⟨_, rfl⟩
        rw [hW0] at Hb B0 Hsz ⊢
        clear hW0
        go_loopw [8, 9, 10, 11, 12] (fun zz v i _ _ wr => ∃ (k z : Nat) (rs : List (Int × Int)) (A : Option Addr) (c l : Nat), zz = .int .i64 (z : Int) ∧ v = .slice A l c ∧ l = rs.length ∧ k ≤ 20 ∧ i = .int .i64 (k : Int) ∧ z < 10007 ∧ l ≤ k ∧ mkR N (20 - k) z rs = T ∧ OwnR wr (w.heap.size + 1) (.slice A l c) rs ∧ Below (w.heap.size + 1) W0 wr) (fun _ _ i _ _ _ => 21 - (intOf i).toNat)
        case atStart => exact ⟨0, Z, [], none, 0, 0, rfl, rfl, rfl, by omega, rfl, by omega, Nat.le_refl _, HT.out, World.ownsRow_nil _ _ _ _, Below.refl _ _⟩
        case round =>
          obtain ⟨k, z, rs, A, c, l, rfl, rfl, hl, hk, rfl, hz, hlk, hmk, hown, hbel⟩ := hrel
          have Hown := Lib.hid hown
          have Hmk := Lib.hid hmk
          have Hl := Lib.hid hl
          have hs := hbel.size
          have hs0 := Hsz.out
          have hwr : w.heap.size + 1 ≤ wr.heap.size := by omega
          clear hown hmk hl
          by_cases hlt : k < 20 ∧ l < N
          · obtain ⟨hlt1, hlt2⟩ := hlt
            have hk20 : (k : Int) < 20 := by omega
            have hlN : (l : Int) < (N : Int) := by omega
            have hz1 := nz_lt z
            have hz2 := nz_lt (nz z)
            have ez1 : ((z : Int) * 177 + 2221) % 10007 = ((nz z : Nat) : Int) := by rw [nz]; omega
            have ez2 : (((nz z : Nat) : Int) * 177 + 2221) % 10007 = ((nz (nz z) : Nat) : Int) := by rw [show nz (nz z) = (nz z * 177 + 2221) % 10007 from rfl]; omega
            have Hold := Lib.hid (fun e q => mkR_old (n := N) (f := 20 - k - 1) (z := z) (e := e) (q := q) (rs := rs) (by have := Hl.out; omega))
            have Hnew := Lib.hid (fun e q => mkR_new (n := N) (f := 20 - k - 1) (z := z) (e := e) (q := q) (rs := rs) (by have := Hl.out; omega))
            obtain ⟨a, ha⟩ : ∃ a, nz z = a := ⟨_, rfl⟩
            rw [ha] at hz1 hz2 ez1 ez2 Hold Hnew
            obtain ⟨b, hb⟩ : ∃ b, nz a = b := ⟨_, rfl⟩
            rw [hb] at hz2 ez2 Hold Hnew
            obtain ⟨e, he⟩ : ∃ e, a % 9 + 2 = e := ⟨_, rfl⟩
            have hei : (a : Int) % 9 + 2 = (e : Int) := by omega
            have he2 : 2 ≤ e ∧ e ≤ 10 := by omega
            obtain ⟨q, hq⟩ : ∃ q, b % e = q := ⟨_, rfl⟩
            have hqi : (b : Int) % (e : Int) = (q : Int) := by rw [← hq, Int.natCast_emod]
            have hze : ((e : Int) == 0) = false := beq_eq_false_iff_ne.2 (by omega)
            have Ho := Lib.hid (Hold.out e q he hq)
            have Hn2 := Lib.hid (Hnew.out e q he hq)
            have Hs1 : Hid (mkR N (20 - k - 1 + 1) z rs = T) := by show _ = _; rw [show 20 - k - 1 + 1 = 20 - k by omega]; exact Hmk.out
            rw [show 20 - k - 1 = 20 - (k + 1) by omega] at Ho Hn2 Hs1
            have Hd0 : Hid (∀ o : Obj, Below (w.heap.size + 1) W0 (wr.alloc o)) := fun o => hbel.alloc hwr o
            have HRl : Hid (∀ o : Obj, Rl (wr.alloc o) A rs) := fun o => Rl.below (Rl_of_own Hown.out Hl.out) ((Below.refl wr.heap.size wr).alloc (Nat.le_refl _) o)
            have Hc := Lib.hid (fun W hW => pzHas_c W A l c rs hW Hl.out (by omega) (e : Int) (q : Int))
            have Hcx0 : Hid ((wr.alloc (.cells #[.int .i64 (e : Int), .int .i64 (q : Int)] 53)).cell? ⟨wr.heap.size, 0, none⟩ = some (.int .i64 (e : Int))) := by show _ = _; simp
            have Hcx1 : Hid ((wr.alloc (.cells #[.int .i64 (e : Int), .int .i64 (q : Int)] 53)).cell? ⟨wr.heap.size, 1, none⟩ = some (.int .i64 (q : Int))) := by show _ = _; simp
            have Hszn : Hid (wr.heap.size < (wr.alloc (.cells #[.int .i64 (e : Int), .int .i64 (q : Int)] 53)).heap.size) := by show _ < _; simp
            have Hoa : Hid (∀ o : Obj, OwnR (wr.alloc o) (w.heap.size + 1) (.slice A l c) rs) := fun o => World.ownsRow.alloc Hown.out o
            cases hh : hsR rs (e : Int) (q : Int) with
            | true =>
              have HT2 : Hid (mkR N (20 - (k + 1)) b rs = T) := by show _ = _; rw [← Ho.out hh]; exact Hs1.out
              rw [hh] at Hc
              clear hh ha hb he hq
              go_wp2_with fail
              refine (Hc.out _ (HRl.out _)).mono ?_
              rintro en w1 ⟨rfl, b1⟩
              have hb1 := (Hd0.out _).trans (b1.mono (by simp; omega))
              have Ho1 := Lib.hid (show OwnR w1 (w.heap.size + 1) (.slice A l c) rs from own_below (Hoa.out _) b1)
              go_wp2
              go_roundw
              case rel => exact ⟨k + 1, b, rs, A, c, l, rfl, rfl, Hl.out, by omega, by go_num, hz2, by omega, HT2.out, Ho1.out, hb1⟩
              case measure => simp [intOf]; omega
            | false =>
              have HT2 : Hid (mkR N (20 - (k + 1)) b (rs ++ [((e : Int), (q : Int))]) = T) := by show _ = _; rw [← Hn2.out hh]; exact Hs1.out
              rw [hh] at Hc
              clear hh ha hb he hq
              go_wp2_with fail
              refine (Hc.out _ (HRl.out _)).mono ?_
              rintro en w1 ⟨rfl, b1⟩
              have hc0 := (b1.cell (p := ⟨wr.heap.size, 0, none⟩) Hszn.out).trans Hcx0.out
              have hc1 := (b1.cell (p := ⟨wr.heap.size, 1, none⟩) Hszn.out).trans Hcx1.out
              have hb1 := (Hd0.out _).trans (b1.mono (by simp; omega))
              have Ho1 := Lib.hid (show OwnR w1 (w.heap.size + 1) (.slice A l c) rs from own_below (Hoa.out _) b1)
              have hs1 := Nat.le_trans (Nat.le_of_eq Hsz.out.symm) hb1.size
              go_wp2_with (at_builtin; refine wp_app_rule _ rfl _ _ rfl (w.heap.size + 1) _ _ rfl Ho1.out _ _ rfl (by have := Hl.out; omega) hs1 ?_; intro v' w2 hown2 b2; obtain ⟨A2, c2, rfl⟩ := OwnR.shape hown2; have Hown2 := Lib.hid hown2; clear hown2)
              go_roundw
              case rel =>
                have e2 : (rs ++ [((e : Int), (q : Int))]).length = l + 1 := by rw [List.length_append, ← Hl.out]; rfl
                have h := Hown2.out
                rw [e2] at h
                exact ⟨k + 1, b, _, A2, c2, l + 1, rfl, by first | rw [e2] | (rw [← e2]; rfl) | simp [Hl.out], e2.symm, by omega, by go_num, hz2, by omega, HT2.out, h, hb1.trans b2⟩
              case measure => simp [intOf]; omega
          · have HTr : Hid (T = rs) := by
              show _ = _
              rw [← Hmk.out]
              by_cases h : k < 20
              · exact mkR_stop (by have := Hl.out; omega)
              · rw [show 20 - k = 0 by omega]; rfl
            have Hblk := Lib.hid ((hbel.block w.heap.size (by omega)).trans Hb.out)
            have hlt0 : w.heap.size < wr.heap.size := by omega
            have hR := Rl_of_own Hown.out Hl.out
            have HR := Lib.hid hR
            have HBl : Hid (V = decide (¬ l < N)) := by show _ = _; rw [HB.out, HTr.out, ← Hl.out]
            clear hR
            by_cases hln : l < N
            · have hk20 : k = 20 := by omega
              have HV : Hid (V = false) := by show _ = _; rw [HBl.out]; exact decide_eq_false (fun h => h hln)
              obtain ⟨hS, hU⟩ := Hn.out HV.out
              have HS := Lib.hid hS
              have HU := Lib.hid hU
              subst hk20
              have hc0 := cell_of_row wr w.heap.size 0 _ _ _ Hblk.out
              have hc1 := cell_of_row wr w.heap.size 1 _ _ _ Hblk.out
              have hf := fun k => frozen_of_row wr w.heap.size k _ _ Hblk.out
              have hlN : (l : Int) < (N : Int) := by omega
              have b9 := B0.out.trans (hbel.mono (by omega))
              clear hS hU hlt
              go_wp2
              refine bodyPost_ret (v := .tuple #[.agg #[.string ⟨#[]⟩, .int .i64 0], .bool false]) (by rw [results_cell_tmp rfl]; go_simp) rfl ⟨by rw [HS.out, HU.out, HV.out], ?_⟩
              first | exact b9 | exact (b9.setCell (Nat.le_refl _) _).setCell (Nat.le_refl _) _
            · have HV : Hid (V = true) := by show _ = _; rw [HBl.out]; exact decide_eq_true hln
              obtain ⟨hS, hU⟩ := Hy.out HV.out
              have HS := Lib.hid hS
              have HU := Lib.hid hU
              have hNl : (N : Int) ≤ (l : Int) := by omega
              have Hpt := Lib.hid (spec_PatternOf_c wr A l c rs HR.out Hl.out (by omega) m)
              obtain ⟨PS, hPS⟩ : ∃ PS, ptV rs m = PS := ⟨_, rfl⟩
              have HPS : Hid (S = PS) := by show _ = _; rw [HS.out, HTr.out, hPS]
              obtain ⟨PO, hPO⟩ : ∃ PO, ptO rs m = PO := ⟨_, rfl⟩
              rw [hPS, hPO] at Hpt
              clear hS hU hlt hPS hPO
              by_cases hk20 : k = 20
              · subst hk20
                go_wp2_with fail
                refine Hpt.out.mono ?_
                rintro en w5 ⟨rfl, b5⟩
                have Hb5 := Lib.hid ((b5.block w.heap.size hlt0).trans Hblk.out)
                have hc0 := cell_of_row w5 w.heap.size 0 _ _ _ Hb5.out
                have hc1 := cell_of_row w5 w.heap.size 1 _ _ _ Hb5.out
                have hf := fun k => frozen_of_row w5 w.heap.size k _ _ Hb5.out
                have b9 := (B0.out.trans (hbel.mono (by omega))).trans (b5.mono (by omega))
                go_wp2
                refine bodyPost_ret (v := .tuple #[.agg #[.string PS, .int .i64 (N : Int)], .bool true]) (by rw [results_cell_tmp rfl]; go_simp) rfl ⟨by rw [HPS.out, HU.out, HV.out], ?_⟩
                exact (b9.setCell (Nat.le_refl _) _).setCell (Nat.le_refl _) _
              · have hk2 : (k : Int) < 20 := by omega
                go_wp2_with fail
                refine Hpt.out.mono ?_
                rintro en w5 ⟨rfl, b5⟩
                have Hb5 := Lib.hid ((b5.block w.heap.size hlt0).trans Hblk.out)
                have hc0 := cell_of_row w5 w.heap.size 0 _ _ _ Hb5.out
                have hc1 := cell_of_row w5 w.heap.size 1 _ _ _ Hb5.out
                have hf := fun k => frozen_of_row w5 w.heap.size k _ _ Hb5.out
                have b9 := (B0.out.trans (hbel.mono (by omega))).trans (b5.mono (by omega))
                go_wp2
                refine bodyPost_ret (v := .tuple #[.agg #[.string PS, .int .i64 (N : Int)], .bool true]) (by rw [results_cell_tmp rfl]; go_simp) rfl ⟨by rw [HPS.out, HU.out, HV.out], ?_⟩
                exact (b9.setCell (Nat.le_refl _) _).setCell (Nat.le_refl _) _
end Go.Proofs.Ytbgoimhgmgldpaa
