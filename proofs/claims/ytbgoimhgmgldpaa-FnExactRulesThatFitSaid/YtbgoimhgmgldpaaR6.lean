import Derived.Test.YtbgoimhgmgldpaaR5
import Derived.Test.YtbgoimhgmgldpaaR3
import Derived.Test.YtbgoimhgmgldpaaM0
namespace Go.Proofs.Ytbgoimhgmgldpaa
open Go.RowKit
set_option linter.unusedVariables false
set_option linter.unusedSimpArgs false

/-- The rules of one Every, of Rests below k, that fit. -/
def ftE (s : ByteArray) (e k : Nat) : List (Int × Int) := ((List.range k).filter fun r : Nat => fitB s (e : Int) (r : Int)).map fun r : Nat => ((e : Int), (r : Int))
theorem ftE_yes {s : ByteArray} {e k : Nat} (h : fitB s (e : Int) (k : Int) = true) : ftE s e (k + 1) = ftE s e k ++ [((e : Int), (k : Int))] := by simp [ftE, List.range_succ, List.filter_append, h]
theorem ftE_no {s : ByteArray} {e k : Nat} (h : fitB s (e : Int) (k : Int) = false) : ftE s e (k + 1) = ftE s e k := by simp [ftE, List.range_succ, List.filter_append, h]
theorem ftE_len (s : ByteArray) (e k : Nat) : (ftE s e k).length ≤ k := by
  rw [ftE, List.length_map]
  exact Nat.le_trans (List.length_filter_le _ _) (by simp)
/-- Those of the first n Everys, from 2 on. -/
def ftA (s : ByteArray) : Nat → List (Int × Int)
  | 0 => []
  | n + 1 => ftA s n ++ ftE s (n + 2) (n + 2)
theorem ftA_len (s : ByteArray) : ∀ n, n ≤ 9 → (ftA s n).length ≤ 10 * n
  | 0, _ => Nat.le_refl _
  | n + 1, h => by
    have h1 := ftA_len s n (by omega)
    have h2 := ftE_len s (n + 2) (n + 2)
    rw [ftA, List.length_append]
    omega
theorem ftE_mem {s : ByteArray} {e k : Nat} {x : Int × Int} (h : x ∈ ftE s e k) : ∃ r : Nat, r < k ∧ x = ((e : Int), (r : Int)) ∧ fitB s (e : Int) (r : Int) = true := by
  rw [ftE, List.mem_map] at h
  obtain ⟨r, hr, rfl⟩ := h
  obtain ⟨h1, h2⟩ := List.mem_filter.1 hr
  exact ⟨r, List.mem_range.1 h1, rfl, h2⟩
theorem ftA_mem {s : ByteArray} {x : Int × Int} : ∀ {n}, x ∈ ftA s n → ∃ e r : Nat, 2 ≤ e ∧ e ≤ n + 1 ∧ r < e ∧ x = ((e : Int), (r : Int)) ∧ fitB s (e : Int) (r : Int) = true
  | 0, h => by cases h
  | n + 1, h => by
    rw [ftA, List.mem_append] at h
    rcases h with h | h
    · obtain ⟨e, r, h1, h2, h3⟩ := ftA_mem h
      exact ⟨e, r, h1, by omega, h3⟩
    · obtain ⟨r, h1, h2, h3⟩ := ftE_mem h
      exact ⟨n + 2, r, by omega, by omega, h1, h2, h3⟩
def fitL (s : ByteArray) : List (Int × Int) := ftA s 9
theorem fitL_len (s : ByteArray) : (fitL s).length ≤ 90 := ftA_len s 9 (Nat.le_refl _)
set_option maxRecDepth 100000 in
set_option maxHeartbeats 1200000 in
theorem pzFit_c (w : World) (s : ByteArray) (hp : patB s = true) :
    Calls Try.prog 67 #[.string s] w fun en w' => (∃ v, en = .returned v ∧ OwnR w' w.heap.size v (fitL s)) ∧ Below w.heap.size w w' := by
  have Hp := Lib.hid hp
  clear hp
  go_enter Try.func67, Try.ntmps67
  go_wp2
  go_loopw [3, 4, 5, 6] (fun v i _ _ wr => ∃ n : Nat, n ≤ 9 ∧ i = .int .i64 ((n : Int) + 2) ∧ OwnR wr w.heap.size v (ftA s n) ∧ Below w.heap.size w wr) (fun _ i _ _ _ => 14 - (intOf i).toNat)
  case atStart => exact ⟨0, Nat.zero_le _, rfl, World.ownsRow_nil _ _ _ _, Below.refl _ _⟩
  case round =>
    obtain ⟨n, hn, rfl, hown, hbel⟩ := hrel
    have Hown := Lib.hid hown
    have Hbel := Lib.hid hbel
    have hal := ftA_len s n hn
    clear hown hbel
    by_cases hlt : n < 9
    · have hn10 : (n : Int) + 2 ≤ 10 := by omega
      go_wp2_with fail
      go_loopw [3, 5, 6] (fun v i _ wr => ∃ k : Nat, k ≤ n + 2 ∧ i = .int .i64 (k : Int) ∧ OwnR wr w.heap.size v (ftA s n ++ ftE s (n + 2) k) ∧ Below w.heap.size w wr) (fun _ i _ _ => n + 3 - (intOf i).toNat)
      case atStart => exact ⟨0, Nat.zero_le _, rfl, by rw [show ftE s (n + 2) 0 = [] from rfl, List.append_nil]; exact Hown.out, Hbel.out⟩
      case round =>
        clear Hown Hbel
        obtain ⟨k, hk, rfl, hown, hbel⟩ := hrel
        have Hown := Lib.hid hown
        have hs := hbel.size
        have hel := ftE_len s (n + 2) k
        clear hown
        by_cases hin : k < n + 2
        · have hkn : (k : Int) < (n : Int) + 2 := by omega
          have Hl := Lib.hid (show (ftA s n ++ ftE s (n + 2) k).length ≤ 1000 by rw [List.length_append]; omega)
          have Hc := Lib.hid (fun W => pzFits_c W s ((n : Int) + 2) (k : Int) Hp.out (by omega) (by omega))
          have hd0 : ∀ o : Obj, Below w.heap.size w (wr.alloc o) := fun o => hbel.alloc hs o
          have Hd0 := Lib.hid hd0
          have Ho : Hid (∀ o : Obj, OwnR (wr.alloc o) w.heap.size _ (ftA s n ++ ftE s (n + 2) k)) := fun o => World.ownsRow.alloc Hown.out o
          have hcx0 : ((wr.alloc (.cells #[.int .i64 ((n : Int) + 2), .int .i64 (k : Int)] 53)).cell? ⟨wr.heap.size, 0, none⟩) = some (.int .i64 ((n : Int) + 2)) := by simp
          have hcx1 : ((wr.alloc (.cells #[.int .i64 ((n : Int) + 2), .int .i64 (k : Int)] 53)).cell? ⟨wr.heap.size, 1, none⟩) = some (.int .i64 (k : Int)) := by simp
          have Hcx0 := Lib.hid hcx0
          have Hcx1 := Lib.hid hcx1
          have Hszn : Hid (wr.heap.size < (wr.alloc (.cells #[.int .i64 ((n : Int) + 2), .int .i64 (k : Int)] 53)).heap.size) := by show _ < _; simp
          have hec : (((n + 2 : Nat)) : Int) = (n : Int) + 2 := by omega
          cases hf : fitB s ((n : Int) + 2) (k : Int) with
          | true =>
            have Hy := Lib.hid (ftE_yes (s := s) (e := n + 2) (k := k) (by rw [hec]; exact hf))
            rw [hec] at Hy
            rw [hf] at Hc
            clear hf hcx0 hcx1 hd0
            go_wp2_with fail
            refine (Hc.out _).mono ?_
            rintro e w1 ⟨rfl, b1⟩
            have hc0 := (b1.cell (p := ⟨wr.heap.size, 0, none⟩) Hszn.out).trans Hcx0.out
            have hc1 := (b1.cell (p := ⟨wr.heap.size, 1, none⟩) Hszn.out).trans Hcx1.out
            have hb1 := (Hd0.out _).trans (b1.mono (Hd0.out _).size)
            have Ho1 := Lib.hid (show OwnR w1 w.heap.size _ (ftA s n ++ ftE s (n + 2) k) from own_below (Ho.out _) b1)
            have hs1 := hb1.size
            go_wp2_with (at_builtin; refine wp_app_rule _ rfl _ _ rfl w.heap.size _ _ rfl Ho1.out _ _ rfl (by have := Hl.out; omega) hs1 ?_; intro v' w2 hown2 b2)
            go_roundw
            case rel => exact ⟨k + 1, by omega, by go_num, by rw [Hy.out, ← List.append_assoc]; exact hown2, hb1.trans b2⟩
            case measure => simp [intOf]; omega
          | false =>
            have Hy := Lib.hid (ftE_no (s := s) (e := n + 2) (k := k) (by rw [hec]; exact hf))
            rw [hf] at Hc
            clear hf hcx0 hcx1 hd0
            go_wp2_with fail
            refine (Hc.out _).mono ?_
            rintro e w1 ⟨rfl, b1⟩
            have hb1 := (Hd0.out _).trans (b1.mono (Hd0.out _).size)
            have Ho1 := Lib.hid (show OwnR w1 w.heap.size _ (ftA s n ++ ftE s (n + 2) k) from own_below (Ho.out _) b1)
            go_wp2
            go_roundw
            case rel => exact ⟨k + 1, by omega, by go_num, by rw [Hy.out]; exact Ho1.out, hb1⟩
            case measure => simp [intOf]; omega
        · have Hk := Lib.hid (show k = n + 2 by omega)
          go_wp2
          go_roundw
          case rel => exact ⟨n + 1, by omega, by go_num, by have h := Hown.out; rw [Hk.out] at h; rw [ftA]; exact h, hbel⟩
          case measure => simp [intOf]; omega
    · have Hn := Lib.hid (show n = 9 by omega)
      go_wp2
      go_ret
      exact ⟨⟨_, rfl, by rw [fitL, ← Hn.out]; exact Hown.out⟩, Hbel.out⟩
def rtV (s : ByteArray) (n : Int) : List (Int × Int) := if pzB s n then fitL s else []
theorem rtV_no {s : ByteArray} {n : Int} (h : pzB s n = false) : rtV s n = [] := by rw [rtV, h]; rfl
theorem rtV_yes {s : ByteArray} {n : Int} (h : pzB s n = true) : rtV s n = fitL s := by rw [rtV, h]; rfl
theorem pzB_pat {s : ByteArray} {n : Int} (h : pzB s n = true) : patB s = true := by rw [pzB, Bool.and_eq_true] at h; exact h.1
theorem rtV_len (s : ByteArray) (n : Int) : (rtV s n).length ≤ 1048576 := by
  rw [rtV]
  split
  · have := fitL_len s; omega
  · exact Nat.zero_le _
set_option maxRecDepth 100000 in
set_option maxHeartbeats 400000 in
theorem spec_RulesThatFit_c (w : World) (s : ByteArray) (n : Int) (hs : (s.size : Int) ≤ 1000000000) :
    Calls Try.prog 26 #[.agg #[.string s, .int .i64 n]] w fun en w' => (∃ v, en = .returned (.tuple #[v, .bool (pzB s n)]) ∧ OwnR w' w.heap.size v (rtV s n)) ∧ Below w.heap.size w w' := by
  have Hg := Lib.hid (fun W => pzGood_c W s n hs)
  have b0 : ∀ o : Obj, Below w.heap.size w (w.alloc o) := fun o => (Below.refl _ _).alloc (Nat.le_refl _) o
  have hc0 : (w.alloc (.cells #[.string s, .int .i64 n] 26)).cell? ⟨w.heap.size, 0, none⟩ = some (.string s) := by simp
  have hsz : w.heap.size < (w.alloc (.cells #[.string s, .int .i64 n] 26)).heap.size := by simp
  have B0 := Lib.hid b0
  have Hc0 := Lib.hid hc0
  have Hsz := Lib.hid hsz
  clear b0 hc0 hsz
  cases hg : pzB s n with
  | false =>
    rw [rtV_no hg]
    rw [hg] at Hg
    clear hg
    go_enter Try.func26, Try.ntmps26
    go_wp2_with fail
    refine (Hg.out _).mono ?_
    rintro e w2 ⟨rfl, b2⟩
    have hb2 := (B0.out _).trans (b2.mono (B0.out _).size)
    go_wp2
    go_ret2
    exact ⟨⟨_, rfl, World.ownsRow_nil _ _ _ _⟩, hb2⟩
  | true =>
    have Hf := Lib.hid (fun W => pzFit_c W s (pzB_pat hg))
    rw [rtV_yes hg]
    rw [hg] at Hg
    clear hg
    go_enter Try.func26, Try.ntmps26
    go_wp2_with fail
    refine (Hg.out _).mono ?_
    rintro e w2 ⟨rfl, b2⟩
    have hb2 := (B0.out _).trans (b2.mono (B0.out _).size)
    have hc2 := (b2.cell (p := ⟨w.heap.size, 0, none⟩) Hsz.out).trans Hc0.out
    go_wp2_with fail
    refine (Hf.out _).mono ?_
    rintro e w3 ⟨⟨v, rfl, o3⟩, b3⟩
    have O3 : Hid (OwnR w3 w.heap.size v (fitL s)) := OwnR.mono o3 hb2.size
    clear o3
    go_wp2
    go_ret2
    exact ⟨⟨_, rfl, O3.out⟩, hb2.trans (b3.mono hb2.size)⟩
end Go.Proofs.Ytbgoimhgmgldpaa
