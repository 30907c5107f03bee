/-
  The contracts of the functions that compare lists, and of SumsValid, SumsFit and SumsSame.
-/
import Derived.Test.YthllfkgceoenbaaSb
namespace Go.Proofs.Ythllfkgceoenbaa
open Go.RowKit

theorem lists_ext {xs ys : List Int} {n : Nat} (hx : xs.length = n) (hy : ys.length = n) (h : ∀ j, j < n → xs.getD j 0 = ys.getD j 0) : xs = ys := by
  apply List.ext_getElem (by omega)
  intro i h1 h2
  have := h i (by omega)
  rw [getD_elem h1, getD_elem h2] at this
  exact this
theorem lists_ne {xs ys : List Int} {j : Nat} (h : xs.getD j 0 ≠ ys.getD j 0) : decide (xs = ys) = false := by
  rw [decide_eq_false_iff_not]; intro e; subst e; exact h rfl
theorem lists_len {xs ys : List Int} (h : xs.length ≠ ys.length) : decide (xs = ys) = false := by
  rw [decide_eq_false_iff_not]; intro e; subst e; exact h rfl

set_option maxHeartbeats 400000 in
theorem same_laws (a a' : Option Addr) (n m cap cap' : Nat) (xs ys : List Int) (w : World) (h : Row w a n xs) (h' : Row w a' m ys) (hm : n ≤ 9223372036854775807) (hm' : m ≤ 9223372036854775807) :
    Calls Try.prog 23 #[.slice a n cap, .slice a' m cap'] w fun e w' => e = .returned (.bool (decide (xs = ys))) ∧ Below w.heap.size w w' := by
  by_cases hnm : n = m
  case neg =>
    rw [lists_len (by rw [h.1, h'.1]; exact hnm)]
    have hb : ((n : Int) != (m : Int)) = true := by rw [bne_iff_ne]; omega
    clear h h'
    go_enter Try.func23, Try.ntmps23
    go_wp2
    go_ret
    exact ⟨rfl, Below.refl _ _⟩
  subst hnm
  have hR := Lib.hid h
  have hR' := Lib.hid h'
  clear h h'
  go_enter Try.func23, Try.ntmps23
  go_wp2
  go_loopw [5] (fun i wr => ∃ k : Nat, k ≤ n ∧ i = .int .i64 k ∧ Hid (∀ j, j < k → xs.getD j 0 = ys.getD j 0) ∧ Below w.heap.size w wr) (fun i _ => n - (intOf i).toNat)
  case atStart => exact ⟨0, Nat.zero_le _, rfl, fun j hj => absurd hj (Nat.not_lt_zero _), Below.refl _ _⟩
  case round =>
    obtain ⟨k, hk, rfl, he, hbel⟩ := hrel
    by_cases hlt : k < n
    · obtain ⟨b, off, rfl, hc⟩ := row_at hR.out hlt
      obtain ⟨b', off', rfl, hc'⟩ := row_at hR'.out hlt
      have hc := kept hbel (block_lt hc) hc
      have hc' := kept hbel (block_lt hc') hc'
      by_cases hxy : xs.getD k 0 = ys.getD k 0
      · have he' : Hid (∀ j, j < k + 1 → xs.getD j 0 = ys.getD j 0) := fun j hj => by
          by_cases e : j = k
          · subst e; exact hxy
          · exact he.out j (by omega)
        rw [← hxy] at hc'
        clear hxy
        generalize xs.getD k 0 = x at hc hc'
        go_wp2
        go_quiet (fail)
        go_wp2
        exact ⟨⟨k + 1, by omega, by go_num, he', below_drewN hbel _⟩, by simp [intOf]; omega⟩
      · have hno := Lib.hid (lists_ne hxy)
        generalize xs.getD k 0 = x at hc hxy
        generalize ys.getD k 0 = y at hc' hxy
        go_wp2
        go_quiet (fail)
        go_wp2
        go_ret
        exact ⟨by rw [hno.out]; rfl, below_drewN hbel _⟩
    · have : k = n := by omega
      subst this
      go_wp2
      go_ret
      exact ⟨by rw [decide_eq_true (lists_ext hR.out.1 hR'.out.1 he.out)]; rfl, hbel⟩

set_option maxHeartbeats 400000 in
theorem eq_laws (a a' : Option Addr) (n m cap cap' : Nat) (xs ys : List Int) (w : World) (h : Row w a n xs) (h' : Row w a' m ys) (hm : n ≤ 9223372036854775807) (hm' : m ≤ 9223372036854775807) :
    Calls Try.prog 37 #[.slice a n cap, .slice a' m cap'] w fun e w' => e = .returned (.bool (decide (xs = ys))) ∧ Below w.heap.size w w' := by
  by_cases hnm : n = m
  case neg =>
    rw [lists_len (by rw [h.1, h'.1]; exact hnm)]
    have hb : ((n : Int) != (m : Int)) = true := by rw [bne_iff_ne]; omega
    clear h h'
    go_enter Try.func37, Try.ntmps37
    go_wp2
    go_ret
    exact ⟨rfl, Below.refl _ _⟩
  subst hnm
  have hR := Lib.hid h
  have hR' := Lib.hid h'
  clear h h'
  go_enter Try.func37, Try.ntmps37
  go_wp2
  go_loopw [5] (fun i wr => ∃ k : Nat, k ≤ n ∧ i = .int .i64 k ∧ Hid (∀ j, j < k → xs.getD j 0 = ys.getD j 0) ∧ Below w.heap.size w wr) (fun i _ => n - (intOf i).toNat)
  case atStart => exact ⟨0, Nat.zero_le _, rfl, fun j hj => absurd hj (Nat.not_lt_zero _), Below.refl _ _⟩
  case round =>
    obtain ⟨k, hk, rfl, he, hbel⟩ := hrel
    by_cases hlt : k < n
    · obtain ⟨b, off, rfl, hc⟩ := row_at hR.out hlt
      obtain ⟨b', off', rfl, hc'⟩ := row_at hR'.out hlt
      have hc := kept hbel (block_lt hc) hc
      have hc' := kept hbel (block_lt hc') hc'
      by_cases hxy : xs.getD k 0 = ys.getD k 0
      · have he' : Hid (∀ j, j < k + 1 → xs.getD j 0 = ys.getD j 0) := fun j hj => by
          by_cases e : j = k
          · subst e; exact hxy
          · exact he.out j (by omega)
        rw [← hxy] at hc'
        clear hxy
        generalize xs.getD k 0 = x at hc hc'
        go_wp2
        go_quiet (fail)
        go_wp2
        exact ⟨⟨k + 1, by omega, by go_num, he', below_drewN hbel _⟩, by simp [intOf]; omega⟩
      · have hno := Lib.hid (lists_ne hxy)
        generalize xs.getD k 0 = x at hc hxy
        generalize ys.getD k 0 = y at hc' hxy
        go_wp2
        go_quiet (fail)
        go_wp2
        go_ret
        exact ⟨by rw [hno.out]; rfl, below_drewN hbel _⟩
    · have : k = n := by omega
      subst this
      go_wp2
      go_ret
      exact ⟨by rw [decide_eq_true (lists_ext hR.out.1 hR'.out.1 he.out)]; rfl, hbel⟩

/-- All numbers are in a range. -/
def allIn (xs : List Int) (lo hi : Int) : Bool := xs.all fun x => inB x lo hi
theorem allIn_iff {xs : List Int} {lo hi : Int} : allIn xs lo hi = true ↔ ∀ i, i < xs.length → lo ≤ xs.getD i 0 ∧ xs.getD i 0 ≤ hi := by
  rw [allIn, List.all_eq_true]
  constructor
  · intro h i hi; exact inB_iff.1 (h _ (by rw [getD_elem hi]; exact List.getElem_mem hi))
  · intro h x hx
    obtain ⟨i, hi, rfl⟩ := List.getElem_of_mem hx
    have := h i hi
    rw [getD_elem hi] at this
    exact inB_iff.2 this
theorem allIn_no {xs : List Int} {lo hi : Int} {i : Nat} (h : i < xs.length) (h2 : xs.getD i 0 < lo ∨ hi < xs.getD i 0) : allIn xs lo hi = false := by
  rw [Bool.eq_false_iff]; intro e
  have := allIn_iff.1 e i h
  omega

set_option maxHeartbeats 400000 in
theorem each_spec (a : Option Addr) (n cap : Nat) (xs : List Int) (lo hi : Int) (w : World) (h : Row w a n xs) (hm : n ≤ 9223372036854775807) :
    Calls Try.prog 46 #[.slice a n cap, .int .i64 lo, .int .i64 hi] w fun e w' => e = .returned (.bool (allIn xs lo hi)) ∧ w = w' := by
  have hR := Lib.hid h
  clear h
  go_enter Try.func46, Try.ntmps46
  go_wp2
  go_loop [7] (fun i => ∃ k : Nat, k ≤ n ∧ i = .int .i64 k ∧ Hid (∀ j, j < k → lo ≤ xs.getD j 0 ∧ xs.getD j 0 ≤ hi)) (fun i => n - (intOf i).toNat)
  case atStart => exact ⟨0, Nat.zero_le _, rfl, fun j hj => absurd hj (Nat.not_lt_zero _)⟩
  case round =>
    obtain ⟨k, hk, rfl, he⟩ := hrel
    by_cases hlt : k < n
    · obtain ⟨b, off, rfl, hc⟩ := row_at hR.out hlt
      by_cases hxy : lo ≤ xs.getD k 0 ∧ xs.getD k 0 ≤ hi
      · have he' : Hid (∀ j, j < k + 1 → lo ≤ xs.getD j 0 ∧ xs.getD j 0 ≤ hi) := fun j hj => by
          by_cases e : j = k
          · subst e; exact hxy
          · exact he.out j (by omega)
        have hin : inB (xs.getD k 0) lo hi = true := inB_iff.2 hxy
        clear hxy
        generalize xs.getD k 0 = x at hc hin
        go_wp2_with fail
        refine (in_any _ _ _ _).mono ?_
        rintro e w1 ⟨rfl, rfl⟩
        rw [hin]
        go_wp2_with fail
        exact ⟨⟨k + 1, by omega, by go_num, he'⟩, by simp [intOf]; omega⟩
      · have hno := Lib.hid (allIn_no (lo := lo) (hi := hi) (by rw [hR.out.1]; exact hlt) (show xs.getD k 0 < lo ∨ hi < xs.getD k 0 by omega))
        have hin : inB (xs.getD k 0) lo hi = false := inB_no (by omega)
        clear hxy
        generalize xs.getD k 0 = x at hc hin
        go_wp2_with fail
        refine (in_any _ _ _ _).mono ?_
        rintro e w1 ⟨rfl, rfl⟩
        rw [hin]
        go_wp2_with fail
        go_ret
        exact ⟨by rw [hno.out]; rfl, rfl⟩
    · have : k = n := by omega
      subst this
      go_wp2
      go_ret
      exact ⟨by rw [allIn_iff.2 (by rw [hR.out.1]; exact he.out)]; rfl, rfl⟩

set_option maxHeartbeats 400000 in
theorem within_impl (a : Option Addr) (n cap : Nat) (xs : List Int) (hi : Int) (w : World) (h : Row w a n xs) (hm : n ≤ 9223372036854775807) :
    Calls Try.prog 50 #[.slice a n cap, .int .i64 hi] w fun e w' => e = .returned (.bool (allIn xs 0 hi)) ∧ w = w' := by
  have hR := Lib.hid h
  clear h
  go_enter Try.func50, Try.ntmps50
  go_wp2
  go_loop [9] (fun i => ∃ k : Nat, k ≤ n ∧ i = .int .i64 k ∧ Hid (∀ j, j < k → 0 ≤ xs.getD j 0 ∧ xs.getD j 0 ≤ hi)) (fun i => n - (intOf i).toNat)
  case atStart => exact ⟨0, Nat.zero_le _, rfl, fun j hj => absurd hj (Nat.not_lt_zero _)⟩
  case round =>
    obtain ⟨k, hk, rfl, he⟩ := hrel
    by_cases hlt : k < n
    · obtain ⟨b, off, rfl, hc⟩ := row_at hR.out hlt
      by_cases hxy : 0 ≤ xs.getD k 0 ∧ xs.getD k 0 ≤ hi
      · have he' : Hid (∀ j, j < k + 1 → 0 ≤ xs.getD j 0 ∧ xs.getD j 0 ≤ hi) := fun j hj => by
          by_cases e : j = k
          · subst e; exact hxy
          · exact he.out j (by omega)
        generalize xs.getD k 0 = x at hc hxy
        go_wp2_with fail
        exact ⟨⟨k + 1, by omega, by go_num, he'⟩, by simp [intOf]; omega⟩
      · have hno := Lib.hid (allIn_no (lo := 0) (hi := hi) (by rw [hR.out.1]; exact hlt) (show xs.getD k 0 < 0 ∨ hi < xs.getD k 0 by omega))
        have hxy : xs.getD k 0 < 0 ∨ hi < xs.getD k 0 := by omega
        generalize xs.getD k 0 = x at hc hxy
        by_cases h0 : x < 0
        · clear hxy
          go_wp2_with fail
          go_ret
          exact ⟨by rw [hno.out]; rfl, rfl⟩
        · have hxy : hi < x := by omega
          go_wp2_with fail
          go_ret
          exact ⟨by rw [hno.out]; rfl, rfl⟩
    · have : k = n := by omega
      subst this
      go_wp2
      go_ret
      exact ⟨by rw [allIn_iff.2 (by rw [hR.out.1]; exact he.out)]; rfl, rfl⟩

def sumsB (rows cols : List Int) : Bool := inB rows.length 1 6 && (inB cols.length 1 6 && (allIn rows 0 cols.length && allIn cols 0 rows.length))
theorem sumsB_1 {rows cols : List Int} (h : inB rows.length 1 6 = false) : sumsB rows cols = false := by simp [sumsB, h]
theorem sumsB_2 {rows cols : List Int} (h : inB cols.length 1 6 = false) : sumsB rows cols = false := by simp [sumsB, h]
theorem sumsB_3 {rows cols : List Int} (h : allIn rows 0 cols.length = false) : sumsB rows cols = false := by simp [sumsB, h]
theorem sumsB_4 {rows cols : List Int} (h : allIn cols 0 rows.length = false) : sumsB rows cols = false := by simp [sumsB, h]
theorem sumsB_5 {rows cols : List Int} (h1 : inB rows.length 1 6 = true) (h2 : inB cols.length 1 6 = true) (h3 : allIn rows 0 cols.length = true) (h4 : allIn cols 0 rows.length = true) : sumsB rows cols = true := by simp [sumsB, h1, h2, h3, h4]

/-- An image fits sums. -/
def fitB (W : Int) (xs rows cols : List Int) : Bool := validB W xs && (decide (rsOut W xs = rows) && decide (csOut W xs = cols))
theorem fitB_1 {W : Int} {xs rows cols : List Int} (h : validB W xs = false) : fitB W xs rows cols = false := by simp [fitB, h]
theorem fitB_2 {W : Int} {xs rows cols : List Int} (h : decide (rsOut W xs = rows) = false) : fitB W xs rows cols = false := by simp only [fitB, h, Bool.false_and, Bool.and_false]
theorem fitB_3 {W : Int} {xs rows cols : List Int} (h : decide (csOut W xs = cols) = false) : fitB W xs rows cols = false := by simp only [fitB, h, Bool.and_false]
theorem fitB_4 {W : Int} {xs rows cols : List Int} (h : validB W xs = true) (h2 : decide (rsOut W xs = rows) = true) (h3 : decide (csOut W xs = cols) = true) : fitB W xs rows cols = true := by simp only [fitB, h, h2, h3, Bool.and_true]
theorem rsOut_len (W : Int) (xs : List Int) : (rsOut W xs).length ≤ xs.length := by unfold rsOut; split <;> simp [rs_len]
theorem rsOut_six (W : Int) (xs : List Int) : (rsOut W xs).length ≤ 6 := by
  unfold rsOut; split
  · rename_i h; have := validB_len h; rw [rs_len]; omega
  · simp
theorem csOut_len (W : Int) (xs : List Int) : (csOut W xs).length ≤ 6 := by
  unfold csOut; split
  · rename_i h; have := validB_W h; rw [cs_len]; omega
  · simp

end Go.Proofs.Ythllfkgceoenbaa

