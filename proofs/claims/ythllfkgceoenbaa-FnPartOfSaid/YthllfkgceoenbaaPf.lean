/-
  The contracts of PartSum and PartBelow, of the program and of the model.
-/
import Derived.Test.YthllfkgceoenbaaPe
namespace Go.Proofs.Ythllfkgceoenbaa
open Go.RowKit

set_option maxHeartbeats 800000 in
theorem msum_impl (a : Option Addr) (n cap : Nat) (xs : List Int) (k : Int) (w : World) (h : Row w a n xs) (hc : n ≤ cap) (hP : Par xs) (hk : 0 ≤ k) :
    Calls Try.prog 54 #[.slice a n cap, .int .i64 k] w fun e w' => e = .returned (.int .i64 (psum xs k.toNat)) ∧ w = w' := by
  have hl := h.1
  have hn := hP.l
  rw [hl] at hn
  obtain ⟨m, hm⟩ : ∃ m : Nat, min k.toNat n = m := ⟨_, rfl⟩
  have hmn : m ≤ n := by omega
  have hmk : min k (n : Int) = (m : Int) := by omega
  rw [psum_min, hl, hm]
  have hsm : Hid (∀ j, 0 ≤ psum xs j ∧ psum xs j ≤ 36) := hP.psum_36
  have hR := Lib.hid h
  have hb := Lib.hid hP.bd'
  clear h hm
  go_enter Try.func54, Try.ntmps54
  go_wp2_with fail
  go_loop [5, 15] (fun o i => ∃ j : Nat, j ≤ m ∧ i = .int .i64 j ∧ o = .int .i64 (psum xs j)) (fun _ i => m - (intOf i).toNat)
  case atStart => exact ⟨0, Nat.zero_le _, rfl, rfl⟩
  case round =>
    obtain ⟨j, hj, rfl, rfl⟩ := hrel
    have hs := hsm.out j
    by_cases hlt : j < m
    · obtain ⟨b, off, rfl, hc⟩ := row_at hR.out (show j < n by omega)
      have hx := hb.out j
      have hsn : psum xs (j + 1) = psum xs j + xs.getD j 0 := rfl
      generalize psum xs j = q at hs hsn
      generalize xs.getD j 0 = x at hc hx hsn
      have hsn := Lib.hid hsn
      go_wp2_with fail
      exact ⟨⟨j + 1, by omega, by go_num, by rw [hsn.out]⟩, by simp [intOf]; omega⟩
    · have : j = m := by omega
      subst this
      go_wp2_with fail
      go_ret
      exact ⟨rfl, rfl⟩

set_option maxHeartbeats 800000 in
theorem l3sum_spec (a : Option Addr) (n cap : Nat) (xs : List Int) (k : Int) (w : World) (h : Row w a n xs) (hP : Par xs) (hk : 0 ≤ k) :
    Calls Try.prog 55 #[.slice a n cap, .int .i64 k] w fun e w' => e = .returned (.int .i64 (psum xs k.toNat)) ∧ w = w' := by
  have hl := h.1
  have hn := hP.l
  rw [hl] at hn
  obtain ⟨m, hm⟩ : ∃ m : Nat, min k.toNat n = m := ⟨_, rfl⟩
  have hmn : m ≤ n := by omega
  have hmk : (m : Int) ≤ k := by omega
  have hend : m < n → k = (m : Int) := by omega
  rw [psum_min, hl, hm]
  have hsm : Hid (∀ j, 0 ≤ psum xs j ∧ psum xs j ≤ 36) := hP.psum_36
  have hR := Lib.hid h
  have hb := Lib.hid hP.bd'
  clear h hm
  go_enter Try.func55, Try.ntmps55
  go_wp2_with fail
  go_loop [5, 6] (fun o i => ∃ j : Nat, j ≤ m ∧ i = .int .i64 j ∧ o = .int .i64 (psum xs j)) (fun _ i => m - (intOf i).toNat)
  case atStart => exact ⟨0, Nat.zero_le _, rfl, rfl⟩
  case round =>
    obtain ⟨j, hj, rfl, rfl⟩ := hrel
    have hs := hsm.out j
    by_cases hlt : j < m
    · obtain ⟨b, off, rfl, hc⟩ := row_at hR.out (show j < n by omega)
      have hx := hb.out j
      have hsn : psum xs (j + 1) = psum xs j + xs.getD j 0 := rfl
      have h1 : j < n := by omega
      have h2 : (j : Int) < k := by omega
      clear hend
      generalize psum xs j = q at hs hsn
      generalize xs.getD j 0 = x at hc hx hsn
      have hsn := Lib.hid hsn
      go_wp2_with fail
      exact ⟨⟨j + 1, by omega, by go_num, by rw [hsn.out]⟩, by simp [intOf]; omega⟩
    · have : j = m := by omega
      subst this
      by_cases h1 : j < n
      · have h2 : ¬ (j : Int) < k := by have := hend h1; omega
        clear hend
        go_wp2_with fail
        go_ret
        exact ⟨rfl, rfl⟩
      · clear hend
        go_wp2_with fail
        go_ret
        exact ⟨rfl, rfl⟩

/-- What PartSum gives. -/
def psumOf (xs : List Int) (k : Int) : Int := if partB xs = true ∧ 0 ≤ k then psum xs k.toNat else -1
theorem psumOf_yes {xs : List Int} {k : Int} (h : Par xs) (hk : 0 ≤ k) : psumOf xs k = psum xs k.toNat := if_pos ⟨h.valid, hk⟩
theorem psumOf_inv {xs : List Int} {k : Int} (h : partB xs = false) : psumOf xs k = -1 := if_neg (by rw [h]; simp)
theorem psumOf_neg {xs : List Int} {k : Int} (h : k < 0) : psumOf xs k = -1 := if_neg (by omega)

set_option maxHeartbeats 400000 in
theorem psum_impl (a : Option Addr) (n cap : Nat) (xs : List Int) (k : Int) (w : World) (h : Row w a n xs) (hc : n ≤ cap) (hm : n ≤ 9223372036854775807) :
    Calls Try.prog 30 #[.slice a n cap, .int .i64 k] w fun e w' => e = .returned (.int .i64 (psumOf xs k)) ∧ Below w.heap.size w w' := by
  have hv := pvalid_impl a n cap xs w h hm
  by_cases hp : partB xs = true
  case neg =>
    have hp : partB xs = false := by simpa using hp
    rw [psumOf_inv hp]
    rw [hp] at hv
    clear hp h
    go_enter Try.func30, Try.ntmps30
    go_wp2_with fail
    refine hv.mono ?_
    rintro e w1 ⟨rfl, hb⟩
    replace hb := Lib.hid hb
    go_wp2_with fail
    go_ret
    exact ⟨rfl, hb.out⟩
  have hP := Lib.hid (Par.of hp)
  rw [hp] at hv
  by_cases hk : 0 ≤ k
  case neg =>
    rw [psumOf_neg (by omega)]
    have hk : k < 0 := by omega
    clear hp h
    go_enter Try.func30, Try.ntmps30
    go_wp2_with fail
    refine hv.mono ?_
    rintro e w1 ⟨rfl, hb⟩
    replace hb := Lib.hid hb
    go_wp2_with fail
    go_ret
    exact ⟨rfl, hb.out⟩
  rw [psumOf_yes hP.out hk]
  have h := Lib.hid h
  have hk' : ¬ k < 0 := by omega
  clear hp
  go_enter Try.func30, Try.ntmps30
  go_wp2_with fail
  refine hv.mono ?_
  rintro e w1 ⟨rfl, hb⟩
  replace h := Lib.hid (h.out.bel hb)
  replace hb := Lib.hid hb
  go_wp2_with fail
  refine (msum_impl a n cap xs k _ h.out hc hP.out hk).mono ?_
  rintro e w2 ⟨rfl, rfl⟩
  go_wp2_with fail
  go_ret
  exact ⟨rfl, hb.out⟩

set_option maxHeartbeats 400000 in
theorem psum_spec (a : Option Addr) (n cap : Nat) (xs : List Int) (k : Int) (w : World) (h : Row w a n xs) (hm : n ≤ 9223372036854775807) :
    Calls Try.prog 31 #[.slice a n cap, .int .i64 k] w fun e w' => e = .returned (.int .i64 (psumOf xs k)) ∧ Below w.heap.size w w' := by
  have hv := pvalid_spec a n cap xs w h hm
  by_cases hp : partB xs = true
  case neg =>
    have hp : partB xs = false := by simpa using hp
    rw [psumOf_inv hp]
    rw [hp] at hv
    clear hp h
    go_enter Try.func31, Try.ntmps31
    go_wp2_with fail
    refine hv.mono ?_
    rintro e w1 ⟨rfl, hb⟩
    replace hb := Lib.hid hb
    go_wp2_with fail
    go_ret
    exact ⟨rfl, hb.out⟩
  have hP := Lib.hid (Par.of hp)
  rw [hp] at hv
  by_cases hk : 0 ≤ k
  case neg =>
    rw [psumOf_neg (by omega)]
    have hk : k < 0 := by omega
    clear hp h
    go_enter Try.func31, Try.ntmps31
    go_wp2_with fail
    refine hv.mono ?_
    rintro e w1 ⟨rfl, hb⟩
    replace hb := Lib.hid hb
    go_wp2_with fail
    go_ret
    exact ⟨rfl, hb.out⟩
  rw [psumOf_yes hP.out hk]
  have h := Lib.hid h
  have hk' : ¬ k < 0 := by omega
  clear hp
  go_enter Try.func31, Try.ntmps31
  go_wp2_with fail
  refine hv.mono ?_
  rintro e w1 ⟨rfl, hb⟩
  replace h := Lib.hid (h.out.bel hb)
  replace hb := Lib.hid hb
  go_wp2_with fail
  refine (l3sum_spec a n cap xs k _ h.out hP.out hk).mono ?_
  rintro e w2 ⟨rfl, rfl⟩
  go_wp2_with fail
  go_ret
  exact ⟨rfl, hb.out⟩

set_option maxHeartbeats 800000 in
theorem mbelow_impl (a a' : Option Addr) (n m cap cap' : Nat) (xs ys : List Int) (w : World) (h : Row w a n xs) (h' : Row w a' m ys) (hc : n ≤ cap) (hc' : m ≤ cap') (hP : Par xs) (hP' : Par ys) :
    Calls Try.prog 56 #[.slice a n cap, .slice a' m cap'] w fun e w' => e = .returned (.bool (belowB xs ys)) ∧ w = w' := by
  have h := Lib.hid h
  have h' := Lib.hid h'
  have hsm : Hid (∀ j, 0 ≤ psum xs j ∧ psum xs j ≤ 36) := hP.psum_36
  have hsm' : Hid (∀ j, 0 ≤ psum ys j ∧ psum ys j ≤ 36) := hP'.psum_36
  have hP := Lib.hid hP
  have hP' := Lib.hid hP'
  go_enter Try.func56, Try.ntmps56
  go_wp2_with fail
  go_loop [6] (fun i => ∃ k : Nat, k ≤ 6 ∧ i = .int .i64 k ∧ Hid (∀ j, j < k → psum xs j ≤ psum ys j)) (fun i => 6 - (intOf i).toNat)
  case atStart => exact ⟨0, Nat.zero_le _, rfl, fun j hj => absurd hj (Nat.not_lt_zero _)⟩
  case round =>
    obtain ⟨k, hk, rfl, he⟩ := hrel
    by_cases hlt : k < 6
    · have e1 := msum_impl a n cap xs (k : Int) w h.out hc hP.out (by omega)
      have e2 := msum_impl a' m cap' ys (k : Int) w h'.out hc' hP'.out (by omega)
      rw [Int.toNat_natCast] at e1 e2
      have b1 := hsm.out k
      have b2 := hsm'.out k
      by_cases hxy : psum ys k < psum xs k
      · have hno := Lib.hid (below_k (show k < 7 by omega) hxy)
        generalize psum xs k = x at e1 b1 hxy
        generalize psum ys k = y at e2 b2 hxy
        go_wp2_with fail
        refine e1.mono ?_
        rintro e w1 ⟨rfl, rfl⟩
        go_wp2_with fail
        refine e2.mono ?_
        rintro e w1 ⟨rfl, rfl⟩
        go_wp2_with fail
        go_ret
        exact ⟨by rw [hno.out]; rfl, rfl⟩
      · have he' : Hid (∀ j, j < k + 1 → psum xs j ≤ psum ys j) := fun j hj => by
          by_cases e : j = k
          · subst e; omega
          · exact he.out j (by omega)
        generalize psum xs k = x at e1 b1 hxy
        generalize psum ys k = y at e2 b2 hxy
        go_wp2_with fail
        refine e1.mono ?_
        rintro e w1 ⟨rfl, rfl⟩
        go_wp2_with fail
        refine e2.mono ?_
        rintro e w1 ⟨rfl, rfl⟩
        go_wp2_with fail
        exact ⟨⟨k + 1, by omega, by go_num, he'⟩, by simp [intOf]; omega⟩
    · have : k = 6 := by omega
      subst this
      have e1 := msum_impl a n cap xs 6 w h.out hc hP.out (by omega)
      have e2 := msum_impl a' m cap' ys 6 w h'.out hc' hP'.out (by omega)
      rw [show (6 : Int).toNat = 6 from rfl] at e1 e2
      by_cases hxy : psum xs 6 = psum ys 6
      · have hyes := Lib.hid (below_yes hP.out.valid hP'.out.valid he.out hxy)
        rw [← hxy] at e2
        clear hxy
        generalize psum xs 6 = x at e1 e2
        go_wp2_with fail
        refine e1.mono ?_
        rintro e w1 ⟨rfl, rfl⟩
        go_wp2_with fail
        refine e2.mono ?_
        rintro e w1 ⟨rfl, rfl⟩
        go_wp2_with fail
        go_ret
        exact ⟨by rw [hyes.out]; rfl, rfl⟩
      · have hno := Lib.hid (below_s hxy)
        have hne : (psum xs 6 == psum ys 6) = false := by simpa using hxy
        clear hxy
        generalize psum xs 6 = x at e1 hne
        generalize psum ys 6 = y at e2 hne
        go_wp2_with fail
        refine e1.mono ?_
        rintro e w1 ⟨rfl, rfl⟩
        go_wp2_with fail
        refine e2.mono ?_
        rintro e w1 ⟨rfl, rfl⟩
        go_wp2_with fail
        go_ret
        exact ⟨by rw [hno.out]; rfl, rfl⟩

set_option maxHeartbeats 800000 in
theorem below_impl (a a' : Option Addr) (n m cap cap' : Nat) (xs ys : List Int) (w : World) (h : Row w a n xs) (h' : Row w a' m ys) (hc : n ≤ cap) (hc' : m ≤ cap') (hm : n ≤ 9223372036854775807) (hm' : m ≤ 9223372036854775807) :
    Calls Try.prog 33 #[.slice a n cap, .slice a' m cap'] w fun e w' => e = .returned (.bool (belowB xs ys)) ∧ Below w.heap.size w w' := by
  have hv := pvalid_impl a n cap xs w h hm
  have h := Lib.hid h
  have h' := Lib.hid h'
  by_cases hp : partB xs = true
  case neg =>
    have hp : partB xs = false := by simpa using hp
    rw [below_a hp]
    rw [hp] at hv
    clear hp
    go_enter Try.func33, Try.ntmps33
    go_wp2_with fail
    refine hv.mono ?_
    rintro e w1 ⟨rfl, hb⟩
    replace hb := Lib.hid hb
    go_wp2_with fail
    go_ret
    exact ⟨rfl, hb.out⟩
  have hP := Lib.hid (Par.of hp)
  rw [hp] at hv
  clear hp
  by_cases hp : partB ys = true
  case neg =>
    have hp : partB ys = false := by simpa using hp
    rw [below_b hp]
    have hp := Lib.hid hp
    go_enter Try.func33, Try.ntmps33
    go_wp2_with fail
    refine hv.mono ?_
    rintro e w1 ⟨rfl, hb⟩
    have hv2 := pvalid_impl a' m cap' ys w1 (h'.out.bel hb) hm'
    rw [hp.out] at hv2
    replace hb := Lib.hid hb
    go_wp2_with fail
    refine hv2.mono ?_
    rintro e w2 ⟨rfl, hb2⟩
    replace hb2 := Lib.hid hb2
    go_wp2_with fail
    go_ret
    exact ⟨rfl, hb.out.trans (hb2.out.mono hb.out.size)⟩
  have hP' := Lib.hid (Par.of hp)
  have hp := Lib.hid hp
  obtain ⟨B, hB⟩ : ∃ B, belowB xs ys = B := ⟨_, rfl⟩
  rw [hB]
  replace hB := Lib.hid hB
  go_enter Try.func33, Try.ntmps33
  go_wp2_with fail
  refine hv.mono ?_
  rintro e w1 ⟨rfl, hb⟩
  have hv2 := pvalid_impl a' m cap' ys w1 (h'.out.bel hb) hm'
  rw [hp.out] at hv2
  replace hb := Lib.hid hb
  go_wp2_with fail
  refine hv2.mono ?_
  rintro e w2 ⟨rfl, hb2⟩
  have hv3 := mbelow_impl a a' n m cap cap' xs ys w2 ((h.out.bel hb.out).bel hb2) ((h'.out.bel hb.out).bel hb2) hc hc' hP.out hP'.out
  rw [hB.out] at hv3
  replace hb2 := Lib.hid hb2
  go_wp2_with fail
  refine hv3.mono ?_
  rintro e w3 ⟨rfl, rfl⟩
  go_wp2_with fail
  go_ret
  exact ⟨by first | rfl | (cases B <;> rfl), hb.out.trans (hb2.out.mono hb.out.size)⟩
end Go.Proofs.Ythllfkgceoenbaa

