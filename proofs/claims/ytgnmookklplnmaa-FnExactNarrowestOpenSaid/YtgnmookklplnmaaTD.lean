import Derived.Test.YtgnmookklplnmaaTC
import Derived.Deep.RegionHeld3
import Derived.Deep.RegionLaw
namespace Go.Proofs.Ytgnmookklplnmaa
open Go.RowKit
set_option linter.unusedVariables false
set_option linter.unusedSimpArgs false

theorem l1Most_c (a b : Int) (w : World) :
    Calls Try.prog 120 #[.int .i64 a, .int .i64 b] w fun e w' => e = .returned (.int .i64 (max a b)) ∧ w = w' := by
  by_cases h : b < a
  · rw [show max a b = a by omega]
    go_enter Try.func120, Try.ntmps120
    go_wp2
    go_ret
    exact ⟨rfl, rfl⟩
  · rw [show max a b = b by omega]
    go_enter Try.func120, Try.ntmps120
    go_wp2
    go_ret
    exact ⟨rfl, rfl⟩

/-- What reLook asks and leaves. -/
def LookOk (W o l : Nat) : Prop := ∀ (L : Int), L = (l : Int) → ∀ (w : World) (b off m c : Nat) (bs : List Int) (v : Value) (ps T : List (List Int)), b < w.heap.size → IsAt w b off bs → m = bs.length → 1 ≤ m → m + l ≤ 6 → (∀ k, k < bs.length → 0 ≤ ivL bs k ∧ ivL bs k ≤ 60) → b ≠ o → v.ownBlock ≠ some b →
    w.heap[o]? = some (.cells #[v] 38 (0, 0)) → OwnLL w (o + 1) v ps → ps ++ lkN W l bs = T → T.length ≤ 1048576 →
    Calls Try.prog 108 #[.slice (some ⟨b, off, none⟩) m c, .int .i64 L, .int .i64 (W : Int), .pointer (some ⟨o, 0, none⟩)] w fun en w' => en = .returned (.tuple #[]) ∧ ∃ v', w'.heap[o]? = some (.cells #[v'] 38 (0, 0)) ∧ OwnLL w' (o + 1) v' T ∧ Kept2 w w' o v v'

theorem look_done {w w5 w6 : World} {o : Nat} {v v6 : Value} {T : List (List Int)} (Ho : w.heap[o]? = some (.cells #[v] 38 (0, 0))) (b5 : Below w.drew.heap.size w.drew w5) (g6 : w5.grownBy w6 v.ownBlock) (hne : some o ≠ v.ownBlock) (o6 : OwnLL w6 (o + 1) v6 T) (hn6 : v6.ownBlock = v.ownBlock ∨ ∀ q, v6.ownBlock = some q → w5.heap.size ≤ q) :
    ∃ v', (w6.setCell ⟨o, 0, none⟩ v6).heap[o]? = some (.cells #[v'] 38 (0, 0)) ∧ OwnLL (w6.setCell ⟨o, 0, none⟩ v6) (o + 1) v' T ∧ Kept2 w (w6.setCell ⟨o, 0, none⟩ v6) o v v' := by
  have ho : o < w.heap.size := (Array.getElem?_eq_some_iff.1 Ho).1
  have hs5 : w.heap.size ≤ w5.heap.size := b5.size
  have h5 : ∀ k, k < w.heap.size → w5.heap[k]? = w.heap[k]? := fun k hk => b5.block k hk
  have h6 : ∀ k, k < w.heap.size → v.ownBlock ≠ some k → w6.heap[k]? = w.heap[k]? := fun k hk hn => (g6.block k (Nat.lt_of_lt_of_le hk hs5) (fun e => hn e.symm)).trans (h5 k hk)
  have ho6 : w6.heap[o]? = some (.cells #[v] 38 (0, 0)) := (h6 o ho (fun e => hne e.symm)).trans Ho
  have h7 := heap_setCell_same w6 o 0 _ _ v6 ho6
  refine ⟨v6, h7, o6.setB (Nat.lt_succ_self o) _, ?_⟩
  refine ⟨g6.os.trans b5.os, g6.tape.trans b5.tape, g6.output.trans b5.output, Nat.le_trans hs5 (by simpa using g6.size), fun k hk h1 h2 => ?_, ?_⟩
  · exact (heap_setCell_other w6 ⟨o, 0, none⟩ k v6 h1).trans (h6 k hk h2)
  · rcases hn6 with e | e
    · exact .inl e
    · exact .inr fun q hq => Nat.le_trans hs5 (e q hq)

set_option maxRecDepth 100000 in
set_option maxHeartbeats 1600000 in
theorem reLook_0 (W o : Nat) (hW : W ≤ 30) : LookOk W o 0 := by
  intro L hL
  subst hL
  intro w b off m c bs v ps T hb hat hm hm1 hm6 hx hbo hvb ho hO hT hTl
  have Hm := Lib.hid hm
  have hl := hat (m - 1) (by omega)
  have hlast : ivL bs (bs.length - 1) = ivL bs (m - 1) := by rw [hm]
  obtain ⟨M, rfl⟩ : ∃ M, m = M + 1 := ⟨m - 1, by omega⟩
  rw [Nat.add_sub_cancel] at hl hlast
  have hx0 := hx M (by omega)
  obtain ⟨X, hX⟩ : ∃ X, ivL bs M = X := ⟨_, rfl⟩
  rw [hX] at hl hlast hx0
  have hc0 : w.cell? ⟨o, 0, none⟩ = some v := cell_of_row w o 0 _ _ _ ho
  have hf0 : w.frozen? ⟨o, 0, none⟩ = false := frozen_of_row w o 0 _ _ ho
  have Ho := Lib.hid ho
  have HO := Lib.hid hO
  have Hat := Lib.hid hat
  by_cases hXW : X = (W : Int)
  · have hT2 : ps ++ [bs] = T := by rw [← hT, lkN, hlast, if_pos hXW]
    have HT2 := Lib.hid hT2
    have hps : ps.length ≤ 1048576 := by rw [← hT2, List.length_append] at hTl; omega
    clear hm hx hT hT2 hlast hX hat hO ho
    have hoB : o + 1 ≤ w.heap.size := (Array.getElem?_eq_some_iff.1 Ho.out).1
    subst hXW
    go_enter Try.func108, Try.ntmps108
    go_wp2_with fail
    have hM9 : M + 1 ≤ 1000000 := by omega
    have Hne := Lib.hid (show some o ≠ v.ownBlock from fun e => by have := (HO.out.lt o e.symm).1; omega)
    have ho9 : o < w.drew.heap.size := hoB
    have ho8 : o + 1 ≤ w.drew.heap.size := hoB
    have hd0 : w.drew.cell? ⟨o, 0, none⟩ = some v := hc0
    have hbd : b < w.drew.heap.size := hb
    have Hatd := Lib.hid (show IsAt w.drew b off bs from Hat.out)
    have Hwd := Lib.hid (show Below w.heap.size w w.drew from below_drewN (Below.refl _ _) 1)
    have HOd := Lib.hid (HO.out.below Hwd.out)
    go_region_law (first | (go_simp; go_at_call 98; (refine (l1Own_c _ b off c (M + 1) bs hbd Hatd.out Hm.out hM9).mono ?_; rintro e w5 ⟨⟨v5, rfl, o5⟩, b5⟩; obtain ⟨A5, c5, rfl⟩ := o5.shape; have hc5 := (b5.cell (p := ⟨o, 0, none⟩) ho9).trans hd0; have o5' := OwnI.mono o5 ho8; have Hq5 := Lib.hid (fun q hq => (World.ownsRow.lt o5 q hq).1); have hs5 := Nat.le_trans ho8 b5.size; have ho5 := Nat.lt_of_lt_of_le ho9 b5.size; have hc5a := fun ob : Obj => (((Below.refl w5.heap.size w5).alloc (Nat.le_refl _) ob).cell (p := ⟨o, 0, none⟩) ho5).trans hc5)) | ((refine step_app_ll0 w5 (.slice A5 bs.length c5) (by rfl) _ _ (by rfl) (o + 1) v ps (by rfl) w.drew HOd.out b5 bs o5' Hq5.out (by rfl) hps hs5 ?_; intro v6 w6 o6 g6 hn6; obtain ⟨A6, c6, rfl⟩ := o6.shape; have hc6 := g6.cell (b5.cell (p := ⟨o, 0, none⟩) ho9 |>.trans hd0) Hne.out; have hf6 := (World.frozen?_of_block (a := ⟨o, 0, none⟩) (g6.block o (Nat.lt_of_lt_of_le ho9 b5.size) Hne.out)).trans ((b5.frozen (p := ⟨o, 0, none⟩) ho9).trans hf0))) | fail)
    all_goals (try go_wp2)
    all_goals (try simp only [Exit.inBlock, Exit.then])
    all_goals refine bodyPost_ret (results_none rfl _ _ _) rfl ?_
    all_goals exact ⟨rfl, look_done Ho.out b5 g6 Hne.out (v6 := .slice A6 (ps.length + 1) c6) (by rw [← HT2.out]; simpa using o6) (by rw [List.length_append] at hn6; exact hn6)⟩
  · have hT2 : T = ps := by rw [← hT, lkN, hlast, if_neg hXW, List.append_nil]
    have HT2 := Lib.hid hT2
    clear hm hx hT hT2 hlast hX hat hO ho
    have hXb : (X == (W : Int)) = false := beq_eq_false_iff_ne.2 hXW
    go_enter Try.func108, Try.ntmps108
    go_wp2
    try simp only [Exit.inBlock, Exit.then]
    refine bodyPost_ret (results_none rfl _ _ _) rfl ?_
    exact ⟨rfl, v, Ho.out, by rw [HT2.out]; exact HO.out, Kept2.of_below (Below.refl _ _)⟩

end Go.Proofs.Ytgnmookklplnmaa
