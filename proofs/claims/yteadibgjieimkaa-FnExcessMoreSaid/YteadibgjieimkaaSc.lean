/-
  The contracts of the functions that compare lists, and of SumsValid, SumsFit and SumsSame.
-/
import Derived.Test.YteadibgjieimkaaSb
namespace Go.Proofs.Yteadibgjieimkaa
set_option maxRecDepth 100000
open Go.RowKit

theorem lists_ext {xs ys : List Int} {n : Nat} (hx : xs.length = n) (hy : ys.length = n) (h : ∀ j, j < n → xs.getD j 0 = ys.getD j 0) : xs = ys := by
  apply List.ext_getElem (by omega)
  intro i h1 h2
  have := h i (by omega)
  rw [getD_elem h1, getD_elem h2] at this
  exact this
theorem lists_ne {xs ys : List Int} {j : Nat} (h : xs.getD j 0 ≠ ys.getD j 0) : decide (xs = ys) = false := by
  rw [decide_eq_false_iff_not]; intro e; subst e; exact h rfl
theorem lists_len {xs ys : List Int} (h : xs.length ≠ ys.length) : decide (xs = ys) = false := by
  rw [decide_eq_false_iff_not]; intro e; subst e; exact h rfl

set_option maxHeartbeats 400000 in
theorem same_spec (a a' : Option Addr) (n m cap cap' : Nat) (xs ys : List Int) (w : World) (h : Row w a n xs) (h' : Row w a' m ys) (hm : n ≤ 9223372036854775807) (hm' : m ≤ 9223372036854775807) :
    Calls Try.prog 57 #[.slice a n cap, .slice a' m cap'] w fun e w' => e = .returned (.bool (decide (xs = ys))) ∧ Below w.heap.size w w' := by
  by_cases hnm : n = m
  case neg =>
    rw [lists_len (by rw [h.1, h'.1]; exact hnm)]
    have hb : ((n : Int) != (m : Int)) = true := by rw [bne_iff_ne]; omega
    clear h h'
    go_enter Try.func57, Try.ntmps57
    go_wp2
    go_ret
    exact ⟨rfl, Below.refl _ _⟩
  subst hnm
  have hR := Lib.hid h
  have hR' := Lib.hid h'
  clear h h'
  go_enter Try.func57, Try.ntmps57
  go_wp2
  go_loopw [5] (fun i wr => ∃ k : Nat, k ≤ n ∧ i = .int .i64 k ∧ Hid (∀ j, j < k → xs.getD j 0 = ys.getD j 0) ∧ Below w.heap.size w wr) (fun i _ => n - (intOf i).toNat)
  case atStart => exact ⟨0, Nat.zero_le _, rfl, fun j hj => absurd hj (Nat.not_lt_zero _), Below.refl _ _⟩
  case round =>
    obtain ⟨k, hk, rfl, he, hbel⟩ := hrel
    by_cases hlt : k < n
    · obtain ⟨b, off, rfl, hc⟩ := row_at hR.out hlt
      obtain ⟨b', off', rfl, hc'⟩ := row_at hR'.out hlt
      have hc := kept hbel (block_lt hc) hc
      have hc' := kept hbel (block_lt hc') hc'
      by_cases hxy : xs.getD k 0 = ys.getD k 0
      · have he' : Hid (∀ j, j < k + 1 → xs.getD j 0 = ys.getD j 0) := fun j hj => by
          by_cases e : j = k
          · subst e; exact hxy
          · exact he.out j (by omega)
        rw [← hxy] at hc'
        clear hxy
        generalize xs.getD k 0 = x at hc hc'
        go_wp2
        go_quiet (fail)
        go_wp2
        exact ⟨⟨k + 1, by omega, by go_num, he', below_drewN hbel _⟩, by simp [intOf]; omega⟩
      · have hno := Lib.hid (lists_ne hxy)
        generalize xs.getD k 0 = x at hc hxy
        generalize ys.getD k 0 = y at hc' hxy
        go_wp2
        go_quiet (fail)
        go_wp2
        go_ret
        exact ⟨by rw [hno.out]; rfl, below_drewN hbel _⟩
    · have : k = n := by omega
      subst this
      go_wp2
      go_ret
      exact ⟨by rw [decide_eq_true (lists_ext hR.out.1 hR'.out.1 he.out)]; rfl, hbel⟩

set_option maxHeartbeats 400000 in
theorem same_laws (a a' : Option Addr) (n m cap cap' : Nat) (xs ys : List Int) (w : World) (h : Row w a n xs) (h' : Row w a' m ys) (hm : n ≤ 9223372036854775807) (hm' : m ≤ 9223372036854775807) :
    Calls Try.prog 22 #[.slice a n cap, .slice a' m cap'] w fun e w' => e = .returned (.bool (decide (xs = ys))) ∧ Below w.heap.size w w' := by
  by_cases hnm : n = m
  case neg =>
    rw [lists_len (by rw [h.1, h'.1]; exact hnm)]
    have hb : ((n : Int) != (m : Int)) = true := by rw [bne_iff_ne]; omega
    clear h h'
    go_enter Try.func22, Try.ntmps22
    go_wp2
    go_ret
    exact ⟨rfl, Below.refl _ _⟩
  subst hnm
  have hR := Lib.hid h
  have hR' := Lib.hid h'
  clear h h'
  go_enter Try.func22, Try.ntmps22
  go_wp2
  go_loopw [5] (fun i wr => ∃ k : Nat, k ≤ n ∧ i = .int .i64 k ∧ Hid (∀ j, j < k → xs.getD j 0 = ys.getD j 0) ∧ Below w.heap.size w wr) (fun i _ => n - (intOf i).toNat)
  case atStart => exact ⟨0, Nat.zero_le _, rfl, fun j hj => absurd hj (Nat.not_lt_zero _), Below.refl _ _⟩
  case round =>
    obtain ⟨k, hk, rfl, he, hbel⟩ := hrel
    by_cases hlt : k < n
    · obtain ⟨b, off, rfl, hc⟩ := row_at hR.out hlt
      obtain ⟨b', off', rfl, hc'⟩ := row_at hR'.out hlt
      have hc := kept hbel (block_lt hc) hc
      have hc' := kept hbel (block_lt hc') hc'
      by_cases hxy : xs.getD k 0 = ys.getD k 0
      · have he' : Hid (∀ j, j < k + 1 → xs.getD j 0 = ys.getD j 0) := fun j hj => by
          by_cases e : j = k
          · subst e; exact hxy
          · exact he.out j (by omega)
        rw [← hxy] at hc'
        clear hxy
        generalize xs.getD k 0 = x at hc hc'
        go_wp2
        go_quiet (fail)
        go_wp2
        exact ⟨⟨k + 1, by omega, by go_num, he', below_drewN hbel _⟩, by simp [intOf]; omega⟩
      · have hno := Lib.hid (lists_ne hxy)
        generalize xs.getD k 0 = x at hc hxy
        generalize ys.getD k 0 = y at hc' hxy
        go_wp2
        go_quiet (fail)
        go_wp2
        go_ret
        exact ⟨by rw [hno.out]; rfl, below_drewN hbel _⟩
    · have : k = n := by omega
      subst this
      go_wp2
      go_ret
      exact ⟨by rw [decide_eq_true (lists_ext hR.out.1 hR'.out.1 he.out)]; rfl, hbel⟩

set_option maxHeartbeats 400000 in
theorem same_lib (a a' : Option Addr) (n m cap cap' : Nat) (xs ys : List Int) (w : World) (h : Row w a n xs) (h' : Row w a' m ys) (hm : n ≤ 9223372036854775807) (hm' : m ≤ 9223372036854775807) :
    Calls Try.prog 55 #[.slice a n cap, .slice a' m cap'] w fun e w' => e = .returned (.bool (decide (xs = ys))) ∧ Below w.heap.size w w' := by
  by_cases hnm : n = m
  case neg =>
    rw [lists_len (by rw [h.1, h'.1]; exact hnm)]
    have hb : ((n : Int) != (m : Int)) = true := by rw [bne_iff_ne]; omega
    clear h h'
    go_enter Try.func55, Try.ntmps55
    go_wp2
    go_ret
    exact ⟨rfl, Below.refl _ _⟩
  subst hnm
  have hR := Lib.hid h
  have hR' := Lib.hid h'
  clear h h'
  go_enter Try.func55, Try.ntmps55
  go_wp2
  go_loopw [13] (fun i wr => ∃ k : Nat, k ≤ n ∧ i = .int .i64 k ∧ Hid (∀ j, j < k → xs.getD j 0 = ys.getD j 0) ∧ Below w.heap.size w wr) (fun i _ => n - (intOf i).toNat)
  case atStart => exact ⟨0, Nat.zero_le _, rfl, fun j hj => absurd hj (Nat.not_lt_zero _), Below.refl _ _⟩
  case round =>
    obtain ⟨k, hk, rfl, he, hbel⟩ := hrel
    by_cases hlt : k < n
    · obtain ⟨b, off, rfl, hc⟩ := row_at hR.out hlt
      obtain ⟨b', off', rfl, hc'⟩ := row_at hR'.out hlt
      have hc := kept hbel (block_lt hc) hc
      have hc' := kept hbel (block_lt hc') hc'
      by_cases hxy : xs.getD k 0 = ys.getD k 0
      · have he' : Hid (∀ j, j < k + 1 → xs.getD j 0 = ys.getD j 0) := fun j hj => by
          by_cases e : j = k
          · subst e; exact hxy
          · exact he.out j (by omega)
        rw [← hxy] at hc'
        clear hxy
        generalize xs.getD k 0 = x at hc hc'
        go_wp2
        go_quiet (fail)
        go_wp2
        exact ⟨⟨k + 1, by omega, by go_num, he', below_drewN hbel _⟩, by simp [intOf]; omega⟩
      · have hno := Lib.hid (lists_ne hxy)
        generalize xs.getD k 0 = x at hc hxy
        generalize ys.getD k 0 = y at hc' hxy
        go_wp2
        go_quiet (fail)
        go_wp2
        go_ret
        exact ⟨by rw [hno.out]; rfl, below_drewN hbel _⟩
    · have : k = n := by omega
      subst this
      go_wp2
      go_ret
      exact ⟨by rw [decide_eq_true (lists_ext hR.out.1 hR'.out.1 he.out)]; rfl, hbel⟩

set_option maxHeartbeats 400000 in
theorem eq_laws (a a' : Option Addr) (n m cap cap' : Nat) (xs ys : List Int) (w : World) (h : Row w a n xs) (h' : Row w a' m ys) (hm : n ≤ 9223372036854775807) (hm' : m ≤ 9223372036854775807) :
    Calls Try.prog 41 #[.slice a n cap, .slice a' m cap'] w fun e w' => e = .returned (.bool (decide (xs = ys))) ∧ Below w.heap.size w w' := by
  by_cases hnm : n = m
  case neg =>
    rw [lists_len (by rw [h.1, h'.1]; exact hnm)]
    have hb : ((n : Int) != (m : Int)) = true := by rw [bne_iff_ne]; omega
    clear h h'
    go_enter Try.func41, Try.ntmps41
    go_wp2
    go_ret
    exact ⟨rfl, Below.refl _ _⟩
  subst hnm
  have hR := Lib.hid h
  have hR' := Lib.hid h'
  clear h h'
  go_enter Try.func41, Try.ntmps41
  go_wp2
  go_loopw [5] (fun i wr => ∃ k : Nat, k ≤ n ∧ i = .int .i64 k ∧ Hid (∀ j, j < k → xs.getD j 0 = ys.getD j 0) ∧ Below w.heap.size w wr) (fun i _ => n - (intOf i).toNat)
  case atStart => exact ⟨0, Nat.zero_le _, rfl, fun j hj => absurd hj (Nat.not_lt_zero _), Below.refl _ _⟩
  case round =>
    obtain ⟨k, hk, rfl, he, hbel⟩ := hrel
    by_cases hlt : k < n
    · obtain ⟨b, off, rfl, hc⟩ := row_at hR.out hlt
      obtain ⟨b', off', rfl, hc'⟩ := row_at hR'.out hlt
      have hc := kept hbel (block_lt hc) hc
      have hc' := kept hbel (block_lt hc') hc'
      by_cases hxy : xs.getD k 0 = ys.getD k 0
      · have he' : Hid (∀ j, j < k + 1 → xs.getD j 0 = ys.getD j 0) := fun j hj => by
          by_cases e : j = k
          · subst e; exact hxy
          · exact he.out j (by omega)
        rw [← hxy] at hc'
        clear hxy
        generalize xs.getD k 0 = x at hc hc'
        go_wp2
        go_quiet (fail)
        go_wp2
        exact ⟨⟨k + 1, by omega, by go_num, he', below_drewN hbel _⟩, by simp [intOf]; omega⟩
      · have hno := Lib.hid (lists_ne hxy)
        generalize xs.getD k 0 = x at hc hxy
        generalize ys.getD k 0 = y at hc' hxy
        go_wp2
        go_quiet (fail)
        go_wp2
        go_ret
        exact ⟨by rw [hno.out]; rfl, below_drewN hbel _⟩
    · have : k = n := by omega
      subst this
      go_wp2
      go_ret
      exact ⟨by rw [decide_eq_true (lists_ext hR.out.1 hR'.out.1 he.out)]; rfl, hbel⟩

/-- All numbers are in a range. -/
def allIn (xs : List Int) (lo hi : Int) : Bool := xs.all fun x => inB x lo hi
theorem allIn_iff {xs : List Int} {lo hi : Int} : allIn xs lo hi = true ↔ ∀ i, i < xs.length → lo ≤ xs.getD i 0 ∧ xs.getD i 0 ≤ hi := by
  rw [allIn, List.all_eq_true]
  constructor
  · intro h i hi; exact inB_iff.1 (h _ (by rw [getD_elem hi]; exact List.getElem_mem hi))
  · intro h x hx
    obtain ⟨i, hi, rfl⟩ := List.getElem_of_mem hx
    have := h i hi
    rw [getD_elem hi] at this
    exact inB_iff.2 this
theorem allIn_no {xs : List Int} {lo hi : Int} {i : Nat} (h : i < xs.length) (h2 : xs.getD i 0 < lo ∨ hi < xs.getD i 0) : allIn xs lo hi = false := by
  rw [Bool.eq_false_iff]; intro e
  have := allIn_iff.1 e i h
  omega

set_option maxHeartbeats 400000 in
theorem each_spec (a : Option Addr) (n cap : Nat) (xs : List Int) (lo hi : Int) (w : World) (h : Row w a n xs) (hm : n ≤ 9223372036854775807) :
    Calls Try.prog 49 #[.slice a n cap, .int .i64 lo, .int .i64 hi] w fun e w' => e = .returned (.bool (allIn xs lo hi)) ∧ w = w' := by
  have hR := Lib.hid h
  clear h
  go_enter Try.func49, Try.ntmps49
  go_wp2
  go_loop [7] (fun i => ∃ k : Nat, k ≤ n ∧ i = .int .i64 k ∧ Hid (∀ j, j < k → lo ≤ xs.getD j 0 ∧ xs.getD j 0 ≤ hi)) (fun i => n - (intOf i).toNat)
  case atStart => exact ⟨0, Nat.zero_le _, rfl, fun j hj => absurd hj (Nat.not_lt_zero _)⟩
  case round =>
    obtain ⟨k, hk, rfl, he⟩ := hrel
    by_cases hlt : k < n
    · obtain ⟨b, off, rfl, hc⟩ := row_at hR.out hlt
      by_cases hxy : lo ≤ xs.getD k 0 ∧ xs.getD k 0 ≤ hi
      · have he' : Hid (∀ j, j < k + 1 → lo ≤ xs.getD j 0 ∧ xs.getD j 0 ≤ hi) := fun j hj => by
          by_cases e : j = k
          · subst e; exact hxy
          · exact he.out j (by omega)
        have hin : inB (xs.getD k 0) lo hi = true := inB_iff.2 hxy
        clear hxy
        generalize xs.getD k 0 = x at hc hin
        go_wp2_with fail
        refine (in_any _ _ _ _).mono ?_
        rintro e w1 ⟨rfl, rfl⟩
        rw [hin]
        go_wp2_with fail
        exact ⟨⟨k + 1, by omega, by go_num, he'⟩, by simp [intOf]; omega⟩
      · have hno := Lib.hid (allIn_no (lo := lo) (hi := hi) (by rw [hR.out.1]; exact hlt) (show xs.getD k 0 < lo ∨ hi < xs.getD k 0 by omega))
        have hin : inB (xs.getD k 0) lo hi = false := inB_no (by omega)
        clear hxy
        generalize xs.getD k 0 = x at hc hin
        go_wp2_with fail
        refine (in_any _ _ _ _).mono ?_
        rintro e w1 ⟨rfl, rfl⟩
        rw [hin]
        go_wp2_with fail
        go_ret
        exact ⟨by rw [hno.out]; rfl, rfl⟩
    · have : k = n := by omega
      subst this
      go_wp2
      go_ret
      exact ⟨by rw [allIn_iff.2 (by rw [hR.out.1]; exact he.out)]; rfl, rfl⟩

set_option maxHeartbeats 400000 in
theorem within_impl (a : Option Addr) (n cap : Nat) (xs : List Int) (hi : Int) (w : World) (h : Row w a n xs) (hm : n ≤ 9223372036854775807) :
    Calls Try.prog 47 #[.slice a n cap, .int .i64 hi] w fun e w' => e = .returned (.bool (allIn xs 0 hi)) ∧ w = w' := by
  have hR := Lib.hid h
  clear h
  go_enter Try.func47, Try.ntmps47
  go_wp2
  go_loop [9] (fun i => ∃ k : Nat, k ≤ n ∧ i = .int .i64 k ∧ Hid (∀ j, j < k → 0 ≤ xs.getD j 0 ∧ xs.getD j 0 ≤ hi)) (fun i => n - (intOf i).toNat)
  case atStart => exact ⟨0, Nat.zero_le _, rfl, fun j hj => absurd hj (Nat.not_lt_zero _)⟩
  case round =>
    obtain ⟨k, hk, rfl, he⟩ := hrel
    by_cases hlt : k < n
    · obtain ⟨b, off, rfl, hc⟩ := row_at hR.out hlt
      by_cases hxy : 0 ≤ xs.getD k 0 ∧ xs.getD k 0 ≤ hi
      · have he' : Hid (∀ j, j < k + 1 → 0 ≤ xs.getD j 0 ∧ xs.getD j 0 ≤ hi) := fun j hj => by
          by_cases e : j = k
          · subst e; exact hxy
          · exact he.out j (by omega)
        generalize xs.getD k 0 = x at hc hxy
        go_wp2_with fail
        exact ⟨⟨k + 1, by omega, by go_num, he'⟩, by simp [intOf]; omega⟩
      · have hno := Lib.hid (allIn_no (lo := 0) (hi := hi) (by rw [hR.out.1]; exact hlt) (show xs.getD k 0 < 0 ∨ hi < xs.getD k 0 by omega))
        have hxy : xs.getD k 0 < 0 ∨ hi < xs.getD k 0 := by omega
        generalize xs.getD k 0 = x at hc hxy
        by_cases h0 : x < 0
        · clear hxy
          go_wp2_with fail
          go_ret
          exact ⟨by rw [hno.out]; rfl, rfl⟩
        · have hxy : hi < x := by omega
          go_wp2_with fail
          go_ret
          exact ⟨by rw [hno.out]; rfl, rfl⟩
    · have : k = n := by omega
      subst this
      go_wp2
      go_ret
      exact ⟨by rw [allIn_iff.2 (by rw [hR.out.1]; exact he.out)]; rfl, rfl⟩

def sumsB (rows cols : List Int) : Bool := inB rows.length 1 6 && (inB cols.length 1 6 && (allIn rows 0 cols.length && allIn cols 0 rows.length))
theorem sumsB_1 {rows cols : List Int} (h : inB rows.length 1 6 = false) : sumsB rows cols = false := by simp [sumsB, h]
theorem sumsB_2 {rows cols : List Int} (h : inB cols.length 1 6 = false) : sumsB rows cols = false := by simp [sumsB, h]
theorem sumsB_3 {rows cols : List Int} (h : allIn rows 0 cols.length = false) : sumsB rows cols = false := by simp [sumsB, h]
theorem sumsB_4 {rows cols : List Int} (h : allIn cols 0 rows.length = false) : sumsB rows cols = false := by simp [sumsB, h]
theorem sumsB_5 {rows cols : List Int} (h1 : inB rows.length 1 6 = true) (h2 : inB cols.length 1 6 = true) (h3 : allIn rows 0 cols.length = true) (h4 : allIn cols 0 rows.length = true) : sumsB rows cols = true := by simp [sumsB, h1, h2, h3, h4]

set_option maxHeartbeats 400000 in
theorem sumsValid_impl (a a' : Option Addr) (n m cap cap' : Nat) (xs ys : List Int) (w : World) (h : Row w a n xs) (h' : Row w a' m ys) (hm : n ≤ 9223372036854775807) (hm' : m ≤ 9223372036854775807) :
    Calls Try.prog 17 #[.slice a n cap, .slice a' m cap'] w fun e w' => e = .returned (.bool (sumsB xs ys)) ∧ w = w' := by
  have hx := h.1
  have hy := h'.1
  obtain ⟨R, hR⟩ : ∃ R, sumsB xs ys = R := ⟨_, rfl⟩
  rw [hR]
  have hR := Lib.hid hR
  go_enter Try.func17, Try.ntmps17
  go_wp2_with fail
  refine (side_any _ _).mono ?_
  rintro e w1 ⟨rfl, rfl⟩
  by_cases h1 : inB n 1 6 = true
  case neg =>
    have h1 : inB n 1 6 = false := by simpa using h1
    rw [h1]
    go_wp2_with fail
    go_ret
    exact ⟨by rw [← hR.out, sumsB_1 (by rw [hx]; exact h1)]; rfl, rfl⟩
  rw [h1]
  go_wp2_with fail
  refine (side_any _ _).mono ?_
  rintro e w1 ⟨rfl, rfl⟩
  by_cases h2 : inB m 1 6 = true
  case neg =>
    have h2 : inB m 1 6 = false := by simpa using h2
    rw [h2]
    go_wp2_with fail
    go_ret
    exact ⟨by rw [← hR.out, sumsB_2 (by rw [hy]; exact h2)]; rfl, rfl⟩
  rw [h2]
  go_wp2_with fail
  refine (within_impl _ _ _ xs _ _ h (by omega)).mono ?_
  rintro e w1 ⟨rfl, rfl⟩
  by_cases h3 : allIn xs 0 m = true
  case neg =>
    have h3 : allIn xs 0 m = false := by simpa using h3
    rw [h3]
    go_wp2_with fail
    go_ret
    exact ⟨by rw [← hR.out, sumsB_3 (by rw [hy]; exact h3)]; rfl, rfl⟩
  rw [h3]
  go_wp2_with fail
  refine (within_impl _ _ _ ys _ _ h' (by omega)).mono ?_
  rintro e w1 ⟨rfl, rfl⟩
  by_cases h4 : allIn ys 0 n = true
  case neg =>
    have h4 : allIn ys 0 n = false := by simpa using h4
    rw [h4]
    go_wp2_with fail
    go_ret
    exact ⟨by rw [← hR.out, sumsB_4 (by rw [hx]; exact h4)]; rfl, rfl⟩
  rw [h4]
  go_wp2_with fail
  go_ret
  exact ⟨by rw [← hR.out, sumsB_5 (by rw [hx]; exact h1) (by rw [hy]; exact h2) (by rw [hy]; exact h3) (by rw [hx]; exact h4)]; rfl, rfl⟩

set_option maxHeartbeats 400000 in
theorem sumsValid_spec (a a' : Option Addr) (n m cap cap' : Nat) (xs ys : List Int) (w : World) (h : Row w a n xs) (h' : Row w a' m ys) (hm : n ≤ 9223372036854775807) (hm' : m ≤ 9223372036854775807) :
    Calls Try.prog 18 #[.slice a n cap, .slice a' m cap'] w fun e w' => e = .returned (.bool (sumsB xs ys)) ∧ w = w' := by
  have hx := h.1
  have hy := h'.1
  obtain ⟨R, hR⟩ : ∃ R, sumsB xs ys = R := ⟨_, rfl⟩
  rw [hR]
  have hR := Lib.hid hR
  go_enter Try.func18, Try.ntmps18
  go_wp2_with fail
  refine (in_any _ _ _ _).mono ?_
  rintro e w1 ⟨rfl, rfl⟩
  by_cases h1 : inB n 1 6 = true
  case neg =>
    have h1 : inB n 1 6 = false := by simpa using h1
    rw [h1]
    go_wp2_with fail
    go_ret
    exact ⟨by rw [← hR.out, sumsB_1 (by rw [hx]; exact h1)]; rfl, rfl⟩
  rw [h1]
  go_wp2_with fail
  refine (in_any _ _ _ _).mono ?_
  rintro e w1 ⟨rfl, rfl⟩
  by_cases h2 : inB m 1 6 = true
  case neg =>
    have h2 : inB m 1 6 = false := by simpa using h2
    rw [h2]
    go_wp2_with fail
    go_ret
    exact ⟨by rw [← hR.out, sumsB_2 (by rw [hy]; exact h2)]; rfl, rfl⟩
  rw [h2]
  go_wp2_with fail
  refine (each_spec _ _ _ xs _ _ _ h (by omega)).mono ?_
  rintro e w1 ⟨rfl, rfl⟩
  by_cases h3 : allIn xs 0 m = true
  case neg =>
    have h3 : allIn xs 0 m = false := by simpa using h3
    rw [h3]
    go_wp2_with fail
    go_ret
    exact ⟨by rw [← hR.out, sumsB_3 (by rw [hy]; exact h3)]; rfl, rfl⟩
  rw [h3]
  go_wp2_with fail
  refine (each_spec _ _ _ ys _ _ _ h' (by omega)).mono ?_
  rintro e w1 ⟨rfl, rfl⟩
  by_cases h4 : allIn ys 0 n = true
  case neg =>
    have h4 : allIn ys 0 n = false := by simpa using h4
    rw [h4]
    go_wp2_with fail
    go_ret
    exact ⟨by rw [← hR.out, sumsB_4 (by rw [hx]; exact h4)]; rfl, rfl⟩
  rw [h4]
  go_wp2_with fail
  go_ret
  exact ⟨by rw [← hR.out, sumsB_5 (by rw [hx]; exact h1) (by rw [hy]; exact h2) (by rw [hy]; exact h3) (by rw [hx]; exact h4)]; rfl, rfl⟩

theorem sumsV_impl (a a' : Option Addr) (n m cap cap' : Nat) (xs ys : List Int) (w : World) (h : Row w a n xs) (h' : Row w a' m ys) (hm : n ≤ 9223372036854775807) (hm' : m ≤ 9223372036854775807) :
    Calls Try.prog 17 #[.slice a n cap, .slice a' m cap'] w fun e w' => e = .returned (.bool (sumsB xs ys)) ∧ Below w.heap.size w w' :=
  (sumsValid_impl a a' n m cap cap' xs ys w h h' hm hm').mono fun _ _ hh => ⟨hh.1, hh.2 ▸ Below.refl _ _⟩

theorem sumsV_spec (a a' : Option Addr) (n m cap cap' : Nat) (xs ys : List Int) (w : World) (h : Row w a n xs) (h' : Row w a' m ys) (hm : n ≤ 9223372036854775807) (hm' : m ≤ 9223372036854775807) :
    Calls Try.prog 18 #[.slice a n cap, .slice a' m cap'] w fun e w' => e = .returned (.bool (sumsB xs ys)) ∧ Below w.heap.size w w' :=
  (sumsValid_spec a a' n m cap cap' xs ys w h h' hm hm').mono fun _ _ hh => ⟨hh.1, hh.2 ▸ Below.refl _ _⟩

/-- An image fits sums. -/
def fitB (W : Int) (xs rows cols : List Int) : Bool := validB W xs && (decide (rsOut W xs = rows) && decide (csOut W xs = cols))
theorem fitB_1 {W : Int} {xs rows cols : List Int} (h : validB W xs = false) : fitB W xs rows cols = false := by simp [fitB, h]
theorem fitB_2 {W : Int} {xs rows cols : List Int} (h : decide (rsOut W xs = rows) = false) : fitB W xs rows cols = false := by simp only [fitB, h, Bool.false_and, Bool.and_false]
theorem fitB_3 {W : Int} {xs rows cols : List Int} (h : decide (csOut W xs = cols) = false) : fitB W xs rows cols = false := by simp only [fitB, h, Bool.and_false]
theorem fitB_4 {W : Int} {xs rows cols : List Int} (h : validB W xs = true) (h2 : decide (rsOut W xs = rows) = true) (h3 : decide (csOut W xs = cols) = true) : fitB W xs rows cols = true := by simp only [fitB, h, h2, h3, Bool.and_true]
theorem rsOut_len (W : Int) (xs : List Int) : (rsOut W xs).length ≤ xs.length := by unfold rsOut; split <;> simp [rs_len]
theorem rsOut_six (W : Int) (xs : List Int) : (rsOut W xs).length ≤ 6 := by
  unfold rsOut; split
  · rename_i h; have := validB_len h; rw [rs_len]; omega
  · simp
theorem csOut_len (W : Int) (xs : List Int) : (csOut W xs).length ≤ 6 := by
  unfold csOut; split
  · rename_i h; have := validB_W h; rw [cs_len]; omega
  · simp

set_option maxHeartbeats 800000 in
theorem fit_impl (W : Int) (a a' a'' : Option Addr) (len n m cap cap' cap'' : Nat) (xs rows cols : List Int) (w : World) (h : Row w a len xs) (h' : Row w a' n rows) (h'' : Row w a'' m cols) (hm : len ≤ 9223372036854775807) (hm' : n ≤ 9223372036854775807) (hm'' : m ≤ 9223372036854775807) :
    Calls Try.prog 20 #[.agg #[.int .i64 W, .slice a len cap], .slice a' n cap', .slice a'' m cap''] w fun e w' => e = .returned (.bool (fitB W xs rows cols)) ∧ Below w.heap.size w w' := by
  obtain ⟨R, hR⟩ : ∃ R, fitB W xs rows cols = R := ⟨_, rfl⟩
  rw [hR]
  have hR := Lib.hid hR
  have hl := h.1
  obtain ⟨W0, hW0⟩ : ∃ W0, W0 = w.alloc (.cells #[.int .i64 W, .slice a len cap] 29) := ⟨_, rfl⟩
  have b0 : Below w.heap.size w W0 := by subst hW0; exact (Below.refl _ _).alloc (Nat.le_refl _) _
  have x0 : W0.cell? ⟨w.heap.size, 0, none⟩ = some (.int .i64 W) := by subst hW0; simp
  have x1 : W0.cell? ⟨w.heap.size, 1, none⟩ = some (.slice a len cap) := by subst hW0; simp
  have hxl : (rsOut W xs).length ≤ 9223372036854775807 := by have := rsOut_len W xs; omega
  have hyl : (csOut W xs).length ≤ 9223372036854775807 := by have := csOut_len W xs; omega
  have h := Lib.hid h
  have h' := Lib.hid h'
  have h'' := Lib.hid h''
  go_enter Try.func20, Try.ntmps20
  go_wp2_with fail
  rw [← hW0]
  clear hW0
  refine (valid_impl _ _ _ _ xs _ (h.out.bel b0) hm).mono ?_
  rintro e w1 ⟨rfl, hb⟩
  have b1 := Lib.hid (b0.trans (hb.mono b0.size))
  have x0 := kept hb (block_lt x0) x0
  have x1 := kept hb (block_lt x1) x1
  clear hb b0
  by_cases h1 : validB W xs = true
  case neg =>
    have h1 : validB W xs = false := by simpa using h1
    rw [h1]
    go_wp2_with fail
    go_ret
    exact ⟨by rw [← hR.out, fitB_1 h1]; rfl, b1.out⟩
  rw [h1]
  have h1 := Lib.hid h1
  go_wp2_with fail
  refine (rsums_impl _ _ _ _ xs _ (h.out.bel b1.out) hm).mono ?_
  rintro e w2 ⟨⟨s, c, rfl, ho⟩, hb⟩
  have b2 := Lib.hid (b1.out.trans (hb.mono b1.out.size))
  have x0 := kept hb (block_lt x0) x0
  have x1 := kept hb (block_lt x1) x1
  have ho := Lib.hid ho.row
  clear hb b1
  go_wp2_with fail
  refine (same_lib _ _ _ _ _ _ (rsOut W xs) rows _ ho.out (h'.out.bel b2.out) hxl hm').mono ?_
  rintro e w3 ⟨rfl, hb⟩
  have b3 := Lib.hid (b2.out.trans (hb.mono b2.out.size))
  have x0 := kept hb (block_lt x0) x0
  have x1 := kept hb (block_lt x1) x1
  clear hb b2 ho
  by_cases h2 : decide (rsOut W xs = rows) = true
  case neg =>
    have h2 : decide (rsOut W xs = rows) = false := by simpa using h2
    rw [h2]
    have h2 := Lib.hid h2
    go_wp2_with fail
    go_ret
    exact ⟨by rw [← hR.out, fitB_2 h2.out]; rfl, b3.out⟩
  rw [h2]
  have h2 := Lib.hid h2
  go_wp2_with fail
  refine (csums_impl _ _ _ _ xs _ (h.out.bel b3.out) hm).mono ?_
  rintro e w4 ⟨⟨s, c, rfl, ho⟩, hb⟩
  have b4 := Lib.hid (b3.out.trans (hb.mono b3.out.size))
  have ho := Lib.hid ho.row
  clear hb b3 x0 x1
  go_wp2_with fail
  refine (same_lib _ _ _ _ _ _ (csOut W xs) cols _ ho.out (h''.out.bel b4.out) hyl hm'').mono ?_
  rintro e w5 ⟨rfl, hb⟩
  have b5 := Lib.hid (b4.out.trans (hb.mono b4.out.size))
  clear hb b4 ho
  by_cases h3 : decide (csOut W xs = cols) = true
  case neg =>
    have h3 : decide (csOut W xs = cols) = false := by simpa using h3
    rw [h3]
    have h3 := Lib.hid h3
    go_wp2_with fail
    go_ret
    exact ⟨by rw [← hR.out, fitB_3 h3.out]; rfl, b5.out⟩
  rw [h3]
  have h3 := Lib.hid h3
  go_wp2_with fail
  go_ret
  exact ⟨by rw [← hR.out, fitB_4 h1.out h2.out h3.out]; rfl, b5.out⟩

set_option maxHeartbeats 800000 in
theorem fit_spec (W : Int) (a a' a'' : Option Addr) (len n m cap cap' cap'' : Nat) (xs rows cols : List Int) (w : World) (h : Row w a len xs) (h' : Row w a' n rows) (h'' : Row w a'' m cols) (hm : len ≤ 9223372036854775807) (hm' : n ≤ 9223372036854775807) (hm'' : m ≤ 9223372036854775807) :
    Calls Try.prog 21 #[.agg #[.int .i64 W, .slice a len cap], .slice a' n cap', .slice a'' m cap''] w fun e w' => e = .returned (.bool (fitB W xs rows cols)) ∧ Below w.heap.size w w' := by
  obtain ⟨R, hR⟩ : ∃ R, fitB W xs rows cols = R := ⟨_, rfl⟩
  rw [hR]
  have hR := Lib.hid hR
  have hl := h.1
  obtain ⟨W0, hW0⟩ : ∃ W0, W0 = w.alloc (.cells #[.int .i64 W, .slice a len cap] 29) := ⟨_, rfl⟩
  have b0 : Below w.heap.size w W0 := by subst hW0; exact (Below.refl _ _).alloc (Nat.le_refl _) _
  have x0 : W0.cell? ⟨w.heap.size, 0, none⟩ = some (.int .i64 W) := by subst hW0; simp
  have x1 : W0.cell? ⟨w.heap.size, 1, none⟩ = some (.slice a len cap) := by subst hW0; simp
  have hxl : (rsOut W xs).length ≤ 9223372036854775807 := by have := rsOut_len W xs; omega
  have hyl : (csOut W xs).length ≤ 9223372036854775807 := by have := csOut_len W xs; omega
  have h := Lib.hid h
  have h' := Lib.hid h'
  have h'' := Lib.hid h''
  go_enter Try.func21, Try.ntmps21
  go_wp2_with fail
  rw [← hW0]
  clear hW0
  refine (valid_spec _ _ _ _ xs _ (h.out.bel b0) hm).mono ?_
  rintro e w1 ⟨rfl, hb⟩
  have b1 := Lib.hid (b0.trans (hb.mono b0.size))
  have x0 := kept hb (block_lt x0) x0
  have x1 := kept hb (block_lt x1) x1
  clear hb b0
  by_cases h1 : validB W xs = true
  case neg =>
    have h1 : validB W xs = false := by simpa using h1
    rw [h1]
    go_wp2_with fail
    go_ret
    exact ⟨by rw [← hR.out, fitB_1 h1]; rfl, b1.out⟩
  rw [h1]
  have h1 := Lib.hid h1
  go_wp2_with fail
  refine (rsums_spec _ _ _ _ xs _ (h.out.bel b1.out) hm).mono ?_
  rintro e w2 ⟨⟨s, c, rfl, ho⟩, hb⟩
  have b2 := Lib.hid (b1.out.trans (hb.mono b1.out.size))
  have x0 := kept hb (block_lt x0) x0
  have x1 := kept hb (block_lt x1) x1
  have ho := Lib.hid ho.row
  clear hb b1
  go_wp2_with fail
  refine (same_spec _ _ _ _ _ _ (rsOut W xs) rows _ ho.out (h'.out.bel b2.out) hxl hm').mono ?_
  rintro e w3 ⟨rfl, hb⟩
  have b3 := Lib.hid (b2.out.trans (hb.mono b2.out.size))
  have x0 := kept hb (block_lt x0) x0
  have x1 := kept hb (block_lt x1) x1
  clear hb b2 ho
  by_cases h2 : decide (rsOut W xs = rows) = true
  case neg =>
    have h2 : decide (rsOut W xs = rows) = false := by simpa using h2
    rw [h2]
    have h2 := Lib.hid h2
    go_wp2_with fail
    go_ret
    exact ⟨by rw [← hR.out, fitB_2 h2.out]; rfl, b3.out⟩
  rw [h2]
  have h2 := Lib.hid h2
  go_wp2_with fail
  refine (csums_spec _ _ _ _ xs _ (h.out.bel b3.out) hm).mono ?_
  rintro e w4 ⟨⟨s, c, rfl, ho⟩, hb⟩
  have b4 := Lib.hid (b3.out.trans (hb.mono b3.out.size))
  have ho := Lib.hid ho.row
  clear hb b3 x0 x1
  go_wp2_with fail
  refine (same_spec _ _ _ _ _ _ (csOut W xs) cols _ ho.out (h''.out.bel b4.out) hyl hm'').mono ?_
  rintro e w5 ⟨rfl, hb⟩
  have b5 := Lib.hid (b4.out.trans (hb.mono b4.out.size))
  clear hb b4 ho
  by_cases h3 : decide (csOut W xs = cols) = true
  case neg =>
    have h3 : decide (csOut W xs = cols) = false := by simpa using h3
    rw [h3]
    have h3 := Lib.hid h3
    go_wp2_with fail
    go_ret
    exact ⟨by rw [← hR.out, fitB_3 h3.out]; rfl, b5.out⟩
  rw [h3]
  have h3 := Lib.hid h3
  go_wp2_with fail
  go_ret
  exact ⟨by rw [← hR.out, fitB_4 h1.out h2.out h3.out]; rfl, b5.out⟩
end Go.Proofs.Yteadibgjieimkaa

