import Derived.Test.YtgkciiklgadgkaaE0
import Derived.StillTailTactics
namespace Go.Proofs.Ytgkciiklgadgkaa
open Go.RowKit
set_option linter.unusedVariables false
set_option linter.unusedSimpArgs false


def okR (e r : Int) : Bool := decide (2 ≤ e ∧ e ≤ 60 ∧ 0 ≤ r ∧ r < e)
theorem okR_true {e r : Int} : okR e r = true ↔ 2 ≤ e ∧ e ≤ 60 ∧ 0 ≤ r ∧ r < e := by simp [okR]
theorem okR_false {e r : Int} : okR e r = false ↔ ¬ (2 ≤ e ∧ e ≤ 60 ∧ 0 ≤ r ∧ r < e) := by simp only [okR, decide_eq_false_iff_not]

set_option maxHeartbeats 400000 in
theorem siRule_c (e r : Int) (w : World) :
    Calls Try.prog 56 #[.agg #[.int .i64 e, .int .i64 r]] w fun en w' => en = .returned (.bool (okR e r)) ∧ Below w.heap.size w w' := by
  by_cases h1 : 2 ≤ e ∧ e ≤ 60
  · have hA : inB e 2 60 = true := inB_true.2 h1
    by_cases h2 : 0 ≤ r ∧ r < e
    · rw [okR_true.2 ⟨h1.1, h1.2, h2.1, h2.2⟩]
      have hB : inB r 0 (e - 1) = true := inB_true.2 (by omega)
      obtain ⟨h3, h4⟩ := h1
      go_enter Try.func56, Try.ntmps56
      go_wp2_with (go_at_call 39; refine (l1In_c _ _ _ _).mono ?_; rintro e w' ⟨rfl, rfl⟩)
      go_ret
      exact ⟨rfl, (Below.refl _ _).alloc (Nat.le_refl _) _⟩
    · rw [okR_false.2 (by omega)]
      have hB : inB r 0 (e - 1) = false := inB_false.2 (by omega)
      obtain ⟨h3, h4⟩ := h1
      go_enter Try.func56, Try.ntmps56
      go_wp2_with (go_at_call 39; refine (l1In_c _ _ _ _).mono ?_; rintro e w' ⟨rfl, rfl⟩)
      go_ret
      exact ⟨rfl, (Below.refl _ _).alloc (Nat.le_refl _) _⟩
  · rw [okR_false.2 (by omega)]
    have hA : inB e 2 60 = false := inB_false.2 (by omega)
    go_enter Try.func56, Try.ntmps56
    go_wp2_with (go_at_call 39; refine (l1In_c _ _ _ _).mono ?_; rintro e w' ⟨rfl, rfl⟩)
    go_ret
    exact ⟨rfl, (Below.refl _ _).alloc (Nat.le_refl _) _⟩

end Go.Proofs.Ytgkciiklgadgkaa

namespace Go.Proofs.Ytgkciiklgadgkaa
open Go.RowKit
set_option linter.unusedVariables false
set_option linter.unusedSimpArgs false

def evL (rs : List (Int × Int)) (k : Nat) : Int := (rs.getD k (0, 0)).1
def reL (rs : List (Int × Int)) (k : Nat) : Int := (rs.getD k (0, 0)).2
/-- The slice (b, off) reads as the rules rs (each two cells). -/
def RulesAt (w : World) (b off : Nat) (rs : List (Int × Int)) : Prop :=
  ∀ k, k < rs.length → w.cell? ⟨b, off + k * 2, none⟩ = some (.int .i64 (evL rs k)) ∧ w.cell? ⟨b, off + k * 2 + 1, none⟩ = some (.int .i64 (reL rs k))

def okAt (rs : List (Int × Int)) (k : Nat) : Bool := okR (evL rs k) (reL rs k)
def goodL (rs : List (Int × Int)) : Bool := decide (rs.length ≤ 12) && decide (∀ k, k < rs.length → okAt rs k = true)
theorem goodL_true {rs : List (Int × Int)} (h : rs.length ≤ 12) (h2 : ∀ k, k < rs.length → okAt rs k = true) : goodL rs = true := by simp [goodL, h]; exact h2
theorem goodL_false {rs : List (Int × Int)} (h : ¬ rs.length ≤ 12) : goodL rs = false := by simp [goodL]; omega
theorem goodL_false' {rs : List (Int × Int)} {k : Nat} (h : k < rs.length) (h2 : okAt rs k = false) : goodL rs = false := by
  simp only [goodL, Bool.and_eq_false_iff, decide_eq_false_iff_not]
  exact .inr fun hh => by rw [hh k h] at h2; cases h2

set_option maxHeartbeats 400000 in
theorem siGood_c (b off c : Nat) (rs : List (Int × Int)) (w : World) (hb : b < w.heap.size) (hr : RulesAt w b off rs) (hn : rs.length ≤ 1048576) :
    Calls Try.prog 38 #[.slice (some ⟨b, off, none⟩) rs.length c] w fun en w' => en = .returned (.bool (goodL rs)) ∧ Below w.heap.size w w' := by
  by_cases h12 : rs.length ≤ 12
  · go_enter Try.func38, Try.ntmps38
    go_wp2
    go_loopw [10] (fun i wr => ∃ k : Nat, k ≤ rs.length ∧ i = .int .i64 k ∧ (∀ j, j < k → okAt rs j = true) ∧ Below w.heap.size w wr) (fun i _ => rs.length - (intOf i).toNat)
    case atStart => exact ⟨0, Nat.zero_le _, rfl, by omega, Below.refl _ _⟩
    case round =>
      obtain ⟨k, hk, rfl, hall, hbel⟩ := hrel
      have Hall := Lib.hid hall
      clear hall
      by_cases hlt : k < rs.length
      · have hc0 := (hbel.cell (p := ⟨b, off + k * 2, none⟩) hb).trans (hr k hlt).1
        have hc1 := (hbel.cell (p := ⟨b, off + k * 2 + 1, none⟩) hb).trans (hr k hlt).2
        cases hok : okAt rs k with
        | true =>
          have hok' : okR (evL rs k) (reL rs k) = true := hok
          go_wp2_with (go_at_call 56; refine (siRule_c _ _ _).mono ?_; rintro e w' ⟨rfl, hb1⟩)
          go_roundw
          case rel => exact ⟨k + 1, by omega, by go_num, fun j hj => by rcases Nat.lt_succ_iff_lt_or_eq.1 hj with h | h; exact Hall.out j h; rw [h]; exact hok, (hbel.alloc hbel.size _).trans (hb1.mono (by simp; have := hbel.size; omega))⟩
          case measure => simp [intOf]; omega
        | false =>
          have hok' : okR (evL rs k) (reL rs k) = false := hok
          go_wp2_with (go_at_call 56; refine (siRule_c _ _ _).mono ?_; rintro e w' ⟨rfl, hb1⟩)
          go_ret
          exact ⟨by rw [goodL_false' hlt hok]; rfl, (hbel.alloc hbel.size _).trans (hb1.mono (by simp; have := hbel.size; omega))⟩
      · go_wp2
        go_ret
        exact ⟨by rw [goodL_true h12 fun j hj => Hall.out j (by omega)]; rfl, hbel⟩
  · rw [goodL_false h12]
    go_enter Try.func38, Try.ntmps38
    go_wp2
    go_ret
    exact ⟨rfl, Below.refl _ _⟩

end Go.Proofs.Ytgkciiklgadgkaa

namespace Go.Proofs.Ytgkciiklgadgkaa
open Go.RowKit
set_option linter.unusedVariables false
set_option linter.unusedSimpArgs false


def sameR (e r e2 r2 : Int) : Bool := decide (e = e2 ∧ r = r2)
theorem sameR_true {e r e2 r2 : Int} : sameR e r e2 r2 = true ↔ e = e2 ∧ r = r2 := by simp [sameR]
theorem sameR_false {e r e2 r2 : Int} : sameR e r e2 r2 = false ↔ ¬ (e = e2 ∧ r = r2) := by simp only [sameR, decide_eq_false_iff_not]



def Rl (w : World) (A : Option Addr) (rs : List (Int × Int)) : Prop :=
  0 < rs.length → ∃ b off, A = some ⟨b, off, none⟩ ∧ b < w.heap.size ∧ RulesAt w b off rs

def okEq (rs ss : List (Int × Int)) (k : Nat) : Bool := sameR (evL rs k) (reL rs k) (evL ss k) (reL ss k)
def eqL (rs ss : List (Int × Int)) : Bool := decide (rs = ss)
theorem eqL_true {rs ss : List (Int × Int)} (hl : rs.length = ss.length) (h : ∀ k, k < rs.length → okEq rs ss k = true) : eqL rs ss = true := by
  refine decide_eq_true (List.ext_getElem hl fun k h1 h2 => ?_)
  have := sameR_true.1 (h k h1)
  simp only [evL, reL, List.getD_eq_getElem?_getD, List.getElem?_eq_getElem h1, List.getElem?_eq_getElem h2, Option.getD_some] at this
  exact Prod.ext this.1 this.2
theorem eqL_false {rs ss : List (Int × Int)} (h : ¬ rs.length = ss.length) : eqL rs ss = false := decide_eq_false fun e => h (by rw [e])
theorem eqL_false' {rs ss : List (Int × Int)} {k : Nat} (h : okEq rs ss k = false) : eqL rs ss = false := decide_eq_false fun e => by
  subst e
  rw [okEq, sameR_true.2 ⟨rfl, rfl⟩] at h
  cases h


end Go.Proofs.Ytgkciiklgadgkaa

namespace Go.Proofs.Ytgkciiklgadgkaa
open Go.RowKit
set_option linter.unusedVariables false
set_option linter.unusedSimpArgs false

theorem info_R : (Try.prog.info? 38).map (fun i => (i.zero, i.size, i.bytes)) = some (some (.agg #[.int .i64 0, .int .i64 0]), 2, 16) := by kernel_rfl




def cellsR (rs : List (Int × Int)) : List Value := rs.flatMap fun r => [.int .i64 r.1, .int .i64 r.2]
theorem cellsR_length (rs : List (Int × Int)) : (cellsR rs).length = rs.length * 2 := by
  induction rs with
  | nil => rfl
  | cons r rs ih => simp only [cellsR, List.flatMap_cons, List.length_append, List.length_cons, List.length_nil] at ih ⊢; omega
theorem cellsR_get (rs : List (Int × Int)) : ∀ k, k < rs.length → (cellsR rs)[k * 2]? = some (.int .i64 (evL rs k)) ∧ (cellsR rs)[k * 2 + 1]? = some (.int .i64 (reL rs k)) := by
  induction rs with
  | nil => intro k h; simp at h
  | cons r rs ih =>
    intro k h
    cases k with
    | zero => exact ⟨rfl, rfl⟩
    | succ k =>
      have := ih k (by simpa using h)
      have e1 : (k + 1) * 2 = k * 2 + 2 := by omega
      rw [e1]
      exact this
theorem evL_ext {rs : List (Int × Int)} {k : Nat} (h : k < rs.length) : rs[k] = (evL rs k, reL rs k) := by
  simp [evL, reL, List.getElem?_eq_getElem h]
/-- A list of cells that holds the rules one by one is cellsR. -/
theorem cellsR_of {rs : List (Int × Int)} {xs : List Value} (hl : xs.length = rs.length * 2) (h : ∀ k, k < rs.length → xs[k * 2]? = some (.int .i64 (evL rs k)) ∧ xs[k * 2 + 1]? = some (.int .i64 (reL rs k))) : xs = cellsR rs := by
  apply List.ext_getElem?
  intro i
  by_cases hi : i < rs.length * 2
  · have h1 := h (i / 2) (by omega)
    have h2 := cellsR_get rs (i / 2) (by omega)
    rcases Nat.mod_two_eq_zero_or_one i with he | he
    · have e : i = i / 2 * 2 := by omega
      rw [e, h1.1, h2.1]
    · have e : i = i / 2 * 2 + 1 := by omega
      rw [e, h1.2, h2.2]
  · rw [List.getElem?_eq_none (by omega), List.getElem?_eq_none (by rw [cellsR_length]; omega)]

def OwnR (w : World) (B : Nat) (v : Value) (rs : List (Int × Int)) : Prop := w.ownsRow B 38 2 v rs.length (cellsR rs)



end Go.Proofs.Ytgkciiklgadgkaa

namespace Go.Proofs.Ytgkciiklgadgkaa
open Go.RowKit
set_option linter.unusedVariables false
set_option linter.unusedSimpArgs false

theorem tmod_lo (n e : Int) (h : 0 < e) : -e < n.tmod e := by
  rcases Int.le_total 0 n with hn | hn
  · have := Int.tmod_nonneg e hn; omega
  · have h1 := Int.tmod_lt_of_pos (-n) h
    rw [Int.neg_tmod] at h1
    omega
theorem tmod_hi (n e : Int) (h : 0 < e) : n.tmod e < e := Int.tmod_lt_of_pos n h
theorem rest_eq (n e : Int) (h : 0 < e) : (n.tmod e + e) % e = n % e := by
  rw [Int.add_emod_right]
  rw [Int.tmod_def, Int.sub_emod, Int.mul_emod_right, Int.sub_zero, Int.emod_emod]

/-- The remainder, at least 0. -/
def restF (n e : Int) : Int := n % e
theorem restF_lo (n e : Int) (h : 2 ≤ e) : 0 ≤ restF n e := Int.emod_nonneg _ (by omega)
theorem restF_hi (n e : Int) (h : 2 ≤ e) : restF n e < e := Int.emod_lt_of_pos _ (by omega)

set_option maxHeartbeats 400000 in
theorem siRest_c (n e : Int) (w : World) (h1 : -10000000000000 ≤ n) (h2 : n ≤ 10000000000000) (h3 : 2 ≤ e) (h4 : e ≤ 60) :
    Calls Try.prog 80 #[.int .i64 n, .int .i64 e] w fun en w' => en = .returned (.int .i64 (restF n e)) ∧ w = w' := by
  have t1 := tmod_lo n e (by omega)
  have t2 := tmod_hi n e (by omega)
  rw [show restF n e = (n.tmod e + e) % e from (rest_eq n e (by omega)).symm]
  have h0 : (e == 0) = false := by simp; omega
  go_enter Try.func80, Try.ntmps80
  go_wp2
  go_ret
  exact ⟨rfl, rfl⟩
set_option maxHeartbeats 400000 in
theorem restOf_c (n e : Int) (w : World) (h1 : -10000000000000 ≤ n) (h2 : n ≤ 10000000000000) (h3 : 2 ≤ e) (h4 : e ≤ 60) :
    Calls Try.prog 82 #[.int .i64 n, .int .i64 e] w fun en w' => en = .returned (.int .i64 (restF n e)) ∧ w = w' := by
  have t1 := tmod_lo n e (by omega)
  have t2 := tmod_hi n e (by omega)
  rw [show restF n e = (n.tmod e + e) % e from (rest_eq n e (by omega)).symm]
  have h0 : (e == 0) = false := by simp; omega
  go_enter Try.func82, Try.ntmps82
  go_wp2
  go_ret
  exact ⟨rfl, rfl⟩

def crossF (e r n : Int) : Bool := decide (restF n e = r)
theorem crossF_true {e r n : Int} : crossF e r n = true ↔ restF n e = r := by simp [crossF]
theorem crossF_false {e r n : Int} : crossF e r n = false ↔ ¬ restF n e = r := by simp only [crossF, decide_eq_false_iff_not]

/-- A callee that leaves the world as it is, called inside a region that draws. -/
theorem qcall {P : Program} {f : FuncId} {args : Array Value} {w : World} {n : Nat} {v : Value} (h : Calls P f args (w.drewN n) fun e w' => e = .returned v ∧ w.drewN n = w') :
    Calls P f args (w.drewN n) fun e w'' => e = .returned v ∧ ∃ m, w'' = w.drewN m := h.mono fun _ _ hh => ⟨hh.1, n, hh.2.symm⟩
theorem below_drewN {B : Nat} {a w : World} (h : Below B a w) (n : Nat) : Below B a (w.drewN n) := h.trans ⟨rfl, rfl, rfl, Nat.le_refl _, fun _ _ => rfl⟩

set_option maxHeartbeats 400000 in
theorem crosses_c (e r n : Int) (w : World) (h1 : -10000000000000 ≤ n) (h2 : n ≤ 10000000000000) (h3 : 2 ≤ e) (h4 : e ≤ 60) :
    Calls Try.prog 77 #[.agg #[.int .i64 e, .int .i64 r], .int .i64 n] w fun en w' => en = .returned (.bool (crossF e r n)) ∧ Below w.heap.size w w' := by
  cases hc : crossF e r n with
  | true =>
    have hd : (restF n e == r) = true := by simpa using crossF_true.1 hc
    go_enter Try.func77, Try.ntmps77
    go_wp2
    go_quiet ((go_at_call 82; exact qcall (restOf_c _ _ _ h1 h2 h3 h4)))
    go_wp2
    go_ret
    exact ⟨rfl, below_drewN ((Below.refl _ _).alloc (Nat.le_refl _) _) _⟩
  | false =>
    have hd : (restF n e == r) = false := by simpa using crossF_false.1 hc
    go_enter Try.func77, Try.ntmps77
    go_wp2
    go_quiet ((go_at_call 82; exact qcall (restOf_c _ _ _ h1 h2 h3 h4)))
    go_wp2
    go_ret
    exact ⟨rfl, below_drewN ((Below.refl _ _).alloc (Nat.le_refl _) _) _⟩

def crossAt (rs : List (Int × Int)) (n : Int) (k : Nat) : Bool := crossF (evL rs k) (reL rs k) n
/-- The index of the first rule that crosses n out, or the number of rules. -/
def fIdx (rs : List (Int × Int)) (n : Int) : Nat := rs.findIdx fun r => crossF r.1 r.2 n
theorem fIdx_le (rs : List (Int × Int)) (n : Int) : fIdx rs n ≤ rs.length := List.findIdx_le_length
theorem crossAt_get {rs : List (Int × Int)} {n : Int} {k : Nat} (h : k < rs.length) : crossAt rs n k = crossF rs[k].1 rs[k].2 n := by
  simp [crossAt, evL, reL, List.getElem?_eq_getElem h]
theorem fIdx_of {rs : List (Int × Int)} {n : Int} {k : Nat} (hk : k < rs.length) (h : ∀ j, j < k → crossAt rs n j = false) (hc : crossAt rs n k = true) : fIdx rs n = k := by
  rw [fIdx, List.findIdx_eq hk]
  refine ⟨by rw [← crossAt_get hk]; exact hc, fun j hj => ?_⟩
  have := h j hj
  rw [crossAt_get (by omega)] at this
  exact this
theorem fIdx_none {rs : List (Int × Int)} {n : Int} (h : ∀ j, j < rs.length → crossAt rs n j = false) : fIdx rs n = rs.length := by
  rw [fIdx, List.findIdx_eq_length]
  intro r hr
  obtain ⟨j, hj, rfl⟩ := List.getElem_of_mem hr
  have := h j hj
  rw [crossAt_get hj] at this
  exact this
theorem okR_at {rs : List (Int × Int)} (h : goodL rs = true) {k : Nat} (hk : k < rs.length) : 2 ≤ evL rs k ∧ evL rs k ≤ 60 ∧ 0 ≤ reL rs k ∧ reL rs k < evL rs k := by
  simp only [goodL, Bool.and_eq_true, decide_eq_true_eq] at h
  exact okR_true.1 (h.2 k hk)
theorem good_len {rs : List (Int × Int)} (h : goodL rs = true) : rs.length ≤ 12 := by
  simp only [goodL, Bool.and_eq_true, decide_eq_true_eq] at h
  exact h.1

/-- What siFirst answers. -/
def firstI (rs : List (Int × Int)) (n : Int) : Int := if fIdx rs n < rs.length then (fIdx rs n : Int) else -1
theorem firstI_of {rs : List (Int × Int)} {n : Int} {k : Nat} (hk : k < rs.length) (h : ∀ j, j < k → crossAt rs n j = false) (hc : crossAt rs n k = true) : firstI rs n = k := by
  rw [firstI, fIdx_of hk h hc, if_pos hk]
theorem firstI_none {rs : List (Int × Int)} {n : Int} (h : ∀ j, j < rs.length → crossAt rs n j = false) : firstI rs n = -1 := by
  rw [firstI, fIdx_none h, if_neg (Nat.lt_irrefl _)]

set_option maxHeartbeats 800000 in
theorem siFirst_c (A : Option Addr) (c m : Nat) (rs : List (Int × Int)) (n : Int) (w : World) (hA : Rl w A rs) (hm : m = rs.length) (hg : goodL rs = true) (h1 : -10000000000000 ≤ n) (h2 : n ≤ 10000000000000) :
    Calls Try.prog 73 #[.slice A m c, .int .i64 n] w fun en w' => en = .returned (.int .i64 (firstI rs n)) ∧ Below w.heap.size w w' := by
  have Hm := Lib.hid hm
  have h12 : m ≤ 12 := by rw [hm]; exact good_len hg
  have Hg := Lib.hid hg
  clear hm hg
  go_enter Try.func73, Try.ntmps73
  go_wp2
  go_loopw [9] (fun i wr => ∃ k : Nat, k ≤ m ∧ i = .int .i64 k ∧ (∀ j, j < k → crossAt rs n j = false) ∧ Below w.heap.size w wr) (fun i _ => m - (intOf i).toNat)
  case atStart => exact ⟨0, Nat.zero_le _, rfl, by omega, Below.refl _ _⟩
  case round =>
    obtain ⟨k, hk, rfl, hall, hbel⟩ := hrel
    have Hall := Lib.hid hall
    clear hall
    by_cases hlt : k < m
    · have hlt1 : k < rs.length := by have := Hm.out; omega
      obtain ⟨b, off, rfl, hb, hr⟩ := hA (by omega)
      have hc0 := (hbel.cell (p := ⟨b, off + k * 2, none⟩) hb).trans (hr k hlt1).1
      have hc1 := (hbel.cell (p := ⟨b, off + k * 2 + 1, none⟩) hb).trans (hr k hlt1).2
      obtain ⟨e1, e2, e3, e4⟩ := okR_at Hg.out hlt1
      have hs := hbel.size
      cases hok : crossAt rs n k with
      | true =>
        have hd : (restF n (evL rs k) == reL rs k) = true := by simpa using crossF_true.1 hok
        go_wp2_with fail
        go_quiet ((go_at_call 80; exact qcall (siRest_c _ _ _ h1 h2 e1 e2)))
        go_wp2
        go_ret
        exact ⟨by rw [firstI_of hlt1 Hall.out hok]; rfl, below_drewN (hbel.alloc hs _) _⟩
      | false =>
        have hd : (restF n (evL rs k) == reL rs k) = false := by simpa using crossF_false.1 hok
        go_wp2_with fail
        go_quiet ((go_at_call 80; exact qcall (siRest_c _ _ _ h1 h2 e1 e2)))
        go_wp2
        go_roundw
        case rel => exact ⟨k + 1, by omega, by go_num, fun j hj => by rcases Nat.lt_succ_iff_lt_or_eq.1 hj with h | h; exact Hall.out j h; rw [h]; exact hok, below_drewN (hbel.alloc hs _) _⟩
        case measure => simp [intOf]; omega
    · go_wp2
      go_ret
      exact ⟨by rw [firstI_none fun j hj => Hall.out j (by have := Hm.out; omega)]; rfl, hbel⟩

/-- What firstCrosser answers. -/
def firstK (rs : List (Int × Int)) (n : Int) : Int := if fIdx rs n < rs.length then (fIdx rs n : Int) else 0
def crossedB (rs : List (Int × Int)) (n : Int) : Bool := decide (fIdx rs n < rs.length)
theorem firstK_of {rs : List (Int × Int)} {n : Int} {k : Nat} (hk : k < rs.length) (h : ∀ j, j < k → crossAt rs n j = false) (hc : crossAt rs n k = true) : firstK rs n = k ∧ crossedB rs n = true := by
  rw [firstK, crossedB, fIdx_of hk h hc, if_pos hk, decide_eq_true hk]; exact ⟨rfl, rfl⟩
theorem firstK_none {rs : List (Int × Int)} {n : Int} (h : ∀ j, j < rs.length → crossAt rs n j = false) : firstK rs n = 0 ∧ crossedB rs n = false := by
  rw [firstK, crossedB, fIdx_none h, if_neg (Nat.lt_irrefl _), decide_eq_false (Nat.lt_irrefl _)]; exact ⟨rfl, rfl⟩

set_option maxHeartbeats 800000 in
theorem firstCrosser_c (A : Option Addr) (c m : Nat) (rs : List (Int × Int)) (n : Int) (w : World) (hA : Rl w A rs) (hm : m = rs.length) (hg : goodL rs = true) (h1 : -10000000000000 ≤ n) (h2 : n ≤ 10000000000000) :
    Calls Try.prog 63 #[.slice A m c, .int .i64 n] w fun en w' => en = .returned (.tuple #[.int .i64 (firstK rs n), .bool (crossedB rs n)]) ∧ Below w.heap.size w w' := by
  have Hm := Lib.hid hm
  have h12 : m ≤ 12 := by rw [hm]; exact good_len hg
  have Hg := Lib.hid hg
  clear hm hg
  go_enter Try.func63, Try.ntmps63
  go_wp2
  go_loopw [10] (fun i wr => ∃ k : Nat, k ≤ m ∧ i = .int .i64 k ∧ (∀ j, j < k → crossAt rs n j = false) ∧ Below w.heap.size w wr) (fun i _ => m - (intOf i).toNat)
  case atStart => exact ⟨0, Nat.zero_le _, rfl, by omega, Below.refl _ _⟩
  case round =>
    obtain ⟨k, hk, rfl, hall, hbel⟩ := hrel
    have Hall := Lib.hid hall
    clear hall
    by_cases hlt : k < m
    · have hlt1 : k < rs.length := by have := Hm.out; omega
      obtain ⟨b, off, rfl, hb, hr⟩ := hA (by omega)
      have hc0 := (hbel.cell (p := ⟨b, off + k * 2, none⟩) hb).trans (hr k hlt1).1
      have hc1 := (hbel.cell (p := ⟨b, off + k * 2 + 1, none⟩) hb).trans (hr k hlt1).2
      obtain ⟨e1, e2, e3, e4⟩ := okR_at Hg.out hlt1
      have hs := hbel.size
      cases hok : crossAt rs n k with
      | true =>
        have hd : crossF (evL rs k) (reL rs k) n = true := hok
        go_wp2_with (go_at_call 77; refine (crosses_c _ _ _ _ h1 h2 e1 e2).mono ?_; rintro e w' ⟨rfl, hb1⟩)
        go_ret2
        exact ⟨by rw [(firstK_of hlt1 Hall.out hok).1, (firstK_of hlt1 Hall.out hok).2]; rfl, (hbel.alloc hs _).trans (hb1.mono (by simp; omega))⟩
      | false =>
        have hd : crossF (evL rs k) (reL rs k) n = false := hok
        go_wp2_with (go_at_call 77; refine (crosses_c _ _ _ _ h1 h2 e1 e2).mono ?_; rintro e w' ⟨rfl, hb1⟩)
        go_roundw
        case rel => exact ⟨k + 1, by omega, by go_num, fun j hj => by rcases Nat.lt_succ_iff_lt_or_eq.1 hj with h | h; exact Hall.out j h; rw [h]; exact hok, (hbel.alloc hs _).trans (hb1.mono (by simp; omega))⟩
        case measure => simp [intOf]; omega
    · go_wp2
      go_ret2
      have hno := firstK_none (rs := rs) (n := n) fun j hj => Hall.out j (by have := Hm.out; omega)
      exact ⟨by rw [hno.1, hno.2]; rfl, hbel⟩

end Go.Proofs.Ytgkciiklgadgkaa

namespace Go.Proofs.Ytgkciiklgadgkaa
open Go.RowKit
set_option linter.unusedVariables false
set_option linter.unusedSimpArgs false

set_option maxHeartbeats 400000 in
theorem implIsRule_c (e r : Int) (w : World) :
    Calls Try.prog 49 #[.agg #[.int .i64 e, .int .i64 r]] w fun en w' => en = .returned (.bool (okR e r)) ∧ Below w.heap.size w w' := by
  by_cases h1 : 2 ≤ e
  · by_cases h2 : e ≤ 60
    · by_cases h3 : 0 ≤ r
      · by_cases h4 : r < e
        · rw [okR_true.2 ⟨h1, h2, h3, h4⟩]
          go_enter Try.func49, Try.ntmps49
          go_wp2
          go_ret
          exact ⟨rfl, (Below.refl _ _).alloc (Nat.le_refl _) _⟩
        · rw [okR_false.2 (by omega)]
          go_enter Try.func49, Try.ntmps49
          go_wp2
          go_ret
          exact ⟨rfl, (Below.refl _ _).alloc (Nat.le_refl _) _⟩
      · rw [okR_false.2 (by omega)]
        go_enter Try.func49, Try.ntmps49
        go_wp2
        go_ret
        exact ⟨rfl, (Below.refl _ _).alloc (Nat.le_refl _) _⟩
    · rw [okR_false.2 (by omega)]
      go_enter Try.func49, Try.ntmps49
      go_wp2
      go_ret
      exact ⟨rfl, (Below.refl _ _).alloc (Nat.le_refl _) _⟩
  · rw [okR_false.2 (by omega)]
    go_enter Try.func49, Try.ntmps49
    go_wp2
    go_ret
    exact ⟨rfl, (Below.refl _ _).alloc (Nat.le_refl _) _⟩

set_option maxHeartbeats 400000 in
theorem implAreRules_c (A : Option Addr) (m c : Nat) (rs : List (Int × Int)) (w : World) (hA : Rl w A rs) (hm : m = rs.length) (hn : m ≤ 1048576) :
    Calls Try.prog 31 #[.slice A m c] w fun en w' => en = .returned (.bool (goodL rs)) ∧ Below w.heap.size w w' := by
  have Hm := Lib.hid hm
  clear hm
  by_cases h12 : m ≤ 12
  · have h12' : rs.length ≤ 12 := by rw [← Hm.out]; exact h12
    go_enter Try.func31, Try.ntmps31
    go_wp2
    go_loopw [10] (fun i wr => ∃ k : Nat, k ≤ m ∧ i = .int .i64 k ∧ (∀ j, j < k → okAt rs j = true) ∧ Below w.heap.size w wr) (fun i _ => m - (intOf i).toNat)
    case atStart => exact ⟨0, Nat.zero_le _, rfl, by omega, Below.refl _ _⟩
    case round =>
      obtain ⟨k, hk, rfl, hall, hbel⟩ := hrel
      have Hall := Lib.hid hall
      clear hall
      by_cases hlt : k < m
      · have hlt1 : k < rs.length := by have := Hm.out; omega
        obtain ⟨b, off, rfl, hb, hr⟩ := hA (by omega)
        have hc0 := (hbel.cell (p := ⟨b, off + k * 2, none⟩) hb).trans (hr k hlt1).1
        have hc1 := (hbel.cell (p := ⟨b, off + k * 2 + 1, none⟩) hb).trans (hr k hlt1).2
        have hs := hbel.size
        cases hok : okAt rs k with
        | true =>
          have hok' : okR (evL rs k) (reL rs k) = true := hok
          go_wp2_with (go_at_call 49; refine (implIsRule_c _ _ _).mono ?_; rintro e w' ⟨rfl, hb1⟩)
          go_roundw
          case rel => exact ⟨k + 1, by omega, by go_num, fun j hj => by rcases Nat.lt_succ_iff_lt_or_eq.1 hj with h | h; exact Hall.out j h; rw [h]; exact hok, (hbel.alloc hs _).trans (hb1.mono (by simp; omega))⟩
          case measure => simp [intOf]; omega
        | false =>
          have hok' : okR (evL rs k) (reL rs k) = false := hok
          go_wp2_with (go_at_call 49; refine (implIsRule_c _ _ _).mono ?_; rintro e w' ⟨rfl, hb1⟩)
          go_ret
          exact ⟨by rw [goodL_false' hlt1 hok]; rfl, (hbel.alloc hs _).trans (hb1.mono (by simp; omega))⟩
      · go_wp2
        go_ret
        exact ⟨by rw [goodL_true h12' fun j hj => Hall.out j (by have := Hm.out; omega)]; rfl, hbel⟩
  · rw [goodL_false (by rw [← Hm.out]; exact h12)]
    go_enter Try.func31, Try.ntmps31
    go_wp2
    go_ret
    exact ⟨rfl, Below.refl _ _⟩

set_option maxHeartbeats 400000 in
theorem good_c (A : Option Addr) (m c : Nat) (rs : List (Int × Int)) (w : World) (hA : Rl w A rs) (hm : m = rs.length) (hn : m ≤ 1048576) :
    Calls Try.prog 38 #[.slice A m c] w fun en w' => en = .returned (.bool (goodL rs)) ∧ Below w.heap.size w w' := by
  have Hm := Lib.hid hm
  clear hm
  by_cases h12 : m ≤ 12
  · have h12' : rs.length ≤ 12 := by rw [← Hm.out]; exact h12
    go_enter Try.func38, Try.ntmps38
    go_wp2
    go_loopw [10] (fun i wr => ∃ k : Nat, k ≤ m ∧ i = .int .i64 k ∧ (∀ j, j < k → okAt rs j = true) ∧ Below w.heap.size w wr) (fun i _ => m - (intOf i).toNat)
    case atStart => exact ⟨0, Nat.zero_le _, rfl, by omega, Below.refl _ _⟩
    case round =>
      obtain ⟨k, hk, rfl, hall, hbel⟩ := hrel
      have Hall := Lib.hid hall
      clear hall
      by_cases hlt : k < m
      · have hlt1 : k < rs.length := by have := Hm.out; omega
        obtain ⟨b, off, rfl, hb, hr⟩ := hA (by omega)
        have hc0 := (hbel.cell (p := ⟨b, off + k * 2, none⟩) hb).trans (hr k hlt1).1
        have hc1 := (hbel.cell (p := ⟨b, off + k * 2 + 1, none⟩) hb).trans (hr k hlt1).2
        have hs := hbel.size
        cases hok : okAt rs k with
        | true =>
          have hok' : okR (evL rs k) (reL rs k) = true := hok
          go_wp2_with (go_at_call 56; refine (siRule_c _ _ _).mono ?_; rintro e w' ⟨rfl, hb1⟩)
          go_roundw
          case rel => exact ⟨k + 1, by omega, by go_num, fun j hj => by rcases Nat.lt_succ_iff_lt_or_eq.1 hj with h | h; exact Hall.out j h; rw [h]; exact hok, (hbel.alloc hs _).trans (hb1.mono (by simp; omega))⟩
          case measure => simp [intOf]; omega
        | false =>
          have hok' : okR (evL rs k) (reL rs k) = false := hok
          go_wp2_with (go_at_call 56; refine (siRule_c _ _ _).mono ?_; rintro e w' ⟨rfl, hb1⟩)
          go_ret
          exact ⟨by rw [goodL_false' hlt1 hok]; rfl, (hbel.alloc hs _).trans (hb1.mono (by simp; omega))⟩
      · go_wp2
        go_ret
        exact ⟨by rw [goodL_true h12' fun j hj => Hall.out j (by have := Hm.out; omega)]; rfl, hbel⟩
  · rw [goodL_false (by rw [← Hm.out]; exact h12)]
    go_enter Try.func38, Try.ntmps38
    go_wp2
    go_ret
    exact ⟨rfl, Below.refl _ _⟩



def numB (n : Int) : Bool := inB n (-600) 600
theorem numB_true {n : Int} : numB n = true ↔ -600 ≤ n ∧ n ≤ 600 := inB_true

def leftF (rs : List (Int × Int)) (n : Int) : Bool := decide (fIdx rs n = rs.length)
theorem leftF_firstI {rs : List (Int × Int)} {n : Int} : leftF rs n = true ↔ firstI rs n < 0 := by
  have := fIdx_le rs n
  simp only [leftF, decide_eq_true_eq, firstI]
  split <;> omega
theorem leftF_crossed {rs : List (Int × Int)} {n : Int} : (!crossedB rs n) = leftF rs n := by
  have := fIdx_le rs n
  rw [Bool.eq_iff_iff]
  simp only [leftF, crossedB, Bool.not_eq_true', decide_eq_false_iff_not, decide_eq_true_eq]
  omega

set_option maxHeartbeats 400000 in
theorem siLeft_c (A : Option Addr) (c m : Nat) (rs : List (Int × Int)) (n : Int) (w : World) (hA : Rl w A rs) (hm : m = rs.length) (hg : goodL rs = true) (h1 : -10000000000000 ≤ n) (h2 : n ≤ 10000000000000) :
    Calls Try.prog 57 #[.slice A m c, .int .i64 n] w fun en w' => en = .returned (.bool (leftF rs n)) ∧ Below w.heap.size w w' := by
  have Hm := Lib.hid hm
  have Hg := Lib.hid hg
  clear hm hg
  cases hl : leftF rs n with
  | true =>
    have hd : firstI rs n < 0 := leftF_firstI.1 hl
    go_enter Try.func57, Try.ntmps57
    go_wp2_with (go_at_call 73; refine (siFirst_c _ _ _ rs _ _ hA Hm.out Hg.out h1 h2).mono ?_; rintro e w' ⟨rfl, hb1⟩)
    go_ret
    exact ⟨by simp, hb1⟩
  | false =>
    have hd : ¬ firstI rs n < 0 := fun h => by rw [leftF_firstI.2 h] at hl; cases hl
    go_enter Try.func57, Try.ntmps57
    go_wp2_with (go_at_call 73; refine (siFirst_c _ _ _ rs _ _ hA Hm.out Hg.out h1 h2).mono ?_; rintro e w' ⟨rfl, hb1⟩)
    go_ret
    exact ⟨by simp; omega, hb1⟩
set_option maxHeartbeats 400000 in
theorem isLeft_c (A : Option Addr) (c m : Nat) (rs : List (Int × Int)) (n : Int) (w : World) (hA : Rl w A rs) (hm : m = rs.length) (hg : goodL rs = true) (h1 : -10000000000000 ≤ n) (h2 : n ≤ 10000000000000) :
    Calls Try.prog 45 #[.slice A m c, .int .i64 n] w fun en w' => en = .returned (.bool (leftF rs n)) ∧ Below w.heap.size w w' := by
  have Hm := Lib.hid hm
  have Hg := Lib.hid hg
  clear hm hg
  rw [← leftF_crossed]
  go_enter Try.func45, Try.ntmps45
  go_wp2_with (go_at_call 63; refine (firstCrosser_c _ _ _ rs _ _ hA Hm.out Hg.out h1 h2).mono ?_; rintro e w' ⟨rfl, hb1⟩)
  go_ret
  exact ⟨rfl, hb1⟩

end Go.Proofs.Ytgkciiklgadgkaa
