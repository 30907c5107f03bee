/-
  The contracts of the functions that tell whether an image has a switch, of the program and the model.
-/
import Derived.Test.YteejopkimlkhoaaRb
import Derived.Test.YteejopkimlkhoaaKb
namespace Go.Proofs.Yteejopkimlkhoaa
set_option maxRecDepth 100000
open Go.RowKit

/-- A place that has two rows and two columns of the image, in order. -/
def placeB (W : Int) (n : Nat) (A B C D : Int) : Bool := decide (0 ≤ A ∧ A < B ∧ B < n ∧ 0 ≤ C ∧ C < D ∧ D < W)
theorem placeB_iff {W : Int} {n : Nat} {A B C D : Int} : placeB W n A B C D = true ↔ 0 ≤ A ∧ A < B ∧ B < n ∧ 0 ≤ C ∧ C < D ∧ D < W := decide_eq_true_iff
theorem placeB_no {W : Int} {n : Nat} {A B C D : Int} (h : ¬ (0 ≤ A ∧ A < B ∧ B < n ∧ 0 ≤ C ∧ C < D ∧ D < W)) : placeB W n A B C D = false := decide_eq_false h
/-- An image has a switch. -/
def okB (W : Int) (xs : List Int) (A B C D : Int) : Bool := validB W xs && (placeB W xs.length A B C D && swC (cellOf xs) A.toNat B.toNat C.toNat D.toNat)
theorem okB_no1 {W : Int} {xs : List Int} {A B C D : Int} (h : validB W xs = false) : okB W xs A B C D = false := by simp [okB, h]
theorem okB_no2 {W : Int} {xs : List Int} {A B C D : Int} (h : placeB W xs.length A B C D = false) : okB W xs A B C D = false := by simp [okB, h]
theorem okB_yes {W : Nat} {n : Nat} {xs : List Int} (h : Im W n xs) {A B C D : Nat} (h1 : A < B) (h2 : B < n) (h3 : C < D) (h4 : D < W) : okB W xs A B C D = swC (cellOf xs) A B C D := by
  have hp : placeB W xs.length A B C D = true := placeB_iff.2 (by have := h.hl; omega)
  simp [okB, h.valid, hp]
theorem okB_im {W : Nat} {n : Nat} {xs : List Int} (h : Im W n xs) {A B C D : Int} (ho : okB W xs A B C D = true) : ∃ A' B' C' D' : Nat, A = A' ∧ B = B' ∧ C = C' ∧ D = D' ∧ A' < B' ∧ B' < n ∧ C' < D' ∧ D' < W ∧ swC (cellOf xs) A' B' C' D' = true := by
  simp only [okB, Bool.and_eq_true] at ho
  have hp := placeB_iff.1 ho.2.1
  have hl := h.hl
  exact ⟨A.toNat, B.toNat, C.toNat, D.toNat, by omega, by omega, by omega, by omega, by omega, by omega, by omega, by omega, ho.2.2⟩

set_option maxHeartbeats 2000000 in
theorem swok_impl (W : Int) (a : Option Addr) (n cap : Nat) (xs : List Int) (A B C D : Int) (w : World) (h : Row w a n xs) (hm : n ≤ 9223372036854775807) :
    Calls Try.prog 75 #[.agg #[.int .i64 W, .slice a n cap], .agg #[.int .i64 A, .int .i64 B, .int .i64 C, .int .i64 D]] w fun e w' => e = .returned (.bool (okB W xs A B C D)) ∧ Below w.heap.size w w' := by
  obtain ⟨W0, hW0⟩ : ∃ W0, W0 = (w.alloc (.cells #[.int .i64 W, .slice a n cap] 25)).alloc (.cells #[.int .i64 A, .int .i64 B, .int .i64 C, .int .i64 D] 37) := ⟨_, rfl⟩
  have bb : Hid (Below w.heap.size w W0) := by subst hW0; exact ((Below.refl _ _).alloc (Nat.le_refl _) _).alloc (by simp) _
  have x0 : W0.cell? ⟨w.heap.size, 0, none⟩ = some (.int .i64 W) := by subst hW0; go_simp
  have x1 : W0.cell? ⟨w.heap.size, 1, none⟩ = some (.slice a n cap) := by subst hW0; go_simp
  have s0 : W0.cell? ⟨w.heap.size + 1, 0, none⟩ = some (.int .i64 A) := by subst hW0; go_simp
  have s1 : W0.cell? ⟨w.heap.size + 1, 1, none⟩ = some (.int .i64 B) := by subst hW0; go_simp
  have s2 : W0.cell? ⟨w.heap.size + 1, 2, none⟩ = some (.int .i64 C) := by subst hW0; go_simp
  have s3 : W0.cell? ⟨w.heap.size + 1, 3, none⟩ = some (.int .i64 D) := by subst hW0; go_simp
  have r := Lib.hid (h.bel bb.out)
  clear h
  have hl := r.out.1
  have hlH := Lib.hid hl
  clear hl
  by_cases hv : validB W xs = true
  case neg =>
    have hv : validB W xs = false := by simpa using hv
    go_enter Try.func75, Try.ntmps75
    go_wp2_with fail
    rw [← hW0]
    clear hW0
    refine (valid_impl _ _ _ _ xs _ r.out hm).mono ?_
    rintro e w1 ⟨rfl, hb⟩
    have szw1 := hb.size
    replace x0 := kept hb (block_lt x0) x0
    replace x1 := kept hb (block_lt x1) x1
    replace s0 := kept hb (block_lt s0) s0
    replace s1 := kept hb (block_lt s1) s1
    replace s2 := kept hb (block_lt s2) s2
    replace s3 := kept hb (block_lt s3) s3
    replace r := Lib.hid (r.out.bel hb)
    replace bb := Lib.hid (bb.out.trans (hb.mono bb.out.size))
    clear hb
    rw [hv]
    go_wp2_with fail
    go_ret
    exact ⟨by rw [okB_no1 hv]; rfl, bb.out⟩
  have hI0 := validB_W hv
  obtain ⟨W, rfl⟩ := Int.eq_ofNat_of_zero_le (by omega : 0 ≤ W)
  have hI : Im W n xs := Im.of hv hlH.out
  replace hI := Lib.hid hI
  go_enter Try.func75, Try.ntmps75
  go_wp2_with fail
  rw [← hW0]
  clear hW0
  refine (valid_impl _ _ _ _ xs _ r.out hm).mono ?_
  rintro e w2 ⟨rfl, hb⟩
  have szw2 := hb.size
  replace x0 := kept hb (block_lt x0) x0
  replace x1 := kept hb (block_lt x1) x1
  replace s0 := kept hb (block_lt s0) s0
  replace s1 := kept hb (block_lt s1) s1
  replace s2 := kept hb (block_lt s2) s2
  replace s3 := kept hb (block_lt s3) s3
  replace r := Lib.hid (r.out.bel hb)
  replace bb := Lib.hid (bb.out.trans (hb.mono bb.out.size))
  clear hb
  rw [hv]
  replace hv := Lib.hid hv
  by_cases h1 : A < B
  case neg =>
    have hq := Lib.hid (placeB_no (W := W) (n := xs.length) (A := A) (B := B) (C := C) (D := D) (by omega))
    have d1 : decide (A < B) = false := decide_eq_false h1
    go_wp2_with fail
    go_ret
    exact ⟨by rw [okB_no2 hq.out]; rfl, bb.out⟩
  by_cases h2 : C < D
  case neg =>
    have hq := Lib.hid (placeB_no (W := W) (n := xs.length) (A := A) (B := B) (C := C) (D := D) (by omega))
    have d1 : decide (C < D) = false := decide_eq_false h2
    go_wp2_with fail
    go_ret
    exact ⟨by rw [okB_no2 hq.out]; rfl, bb.out⟩
  obtain ⟨q1, hq1⟩ : ∃ q, cellB W n A C = q := ⟨_, rfl⟩
  go_wp2_with fail
  refine (inside_any _ _ _ _ _ _ _).mono ?_
  rintro e w3 ⟨rfl, hb⟩
  have szw3 := hb.size
  replace x0 := kept hb (block_lt x0) x0
  replace x1 := kept hb (block_lt x1) x1
  replace s0 := kept hb (block_lt s0) s0
  replace s1 := kept hb (block_lt s1) s1
  replace s2 := kept hb (block_lt s2) s2
  replace s3 := kept hb (block_lt s3) s3
  replace r := Lib.hid (r.out.bel hb)
  replace bb := Lib.hid (bb.out.trans (hb.mono bb.out.size))
  clear hb
  rw [hq1]
  cases q1 with
  | false =>
    have hc : ¬ (0 ≤ A ∧ A < n ∧ 0 ≤ C ∧ C < W) := fun h => by have := cellB_iff.2 h; rw [hq1] at this; cases this
    have hq := Lib.hid (placeB_no (W := W) (n := xs.length) (A := A) (B := B) (C := C) (D := D) (by have := hlH.out; omega))
    clear hq1 hc
    go_wp2_with fail
    go_ret
    exact ⟨by rw [okB_no2 hq.out]; rfl, bb.out⟩
  | true =>
    have hc1 := cellB_iff.1 hq1
    clear hq1
    obtain ⟨q2, hq2⟩ : ∃ q, cellB W n B D = q := ⟨_, rfl⟩
    go_wp2_with fail
    refine (inside_any _ _ _ _ _ _ _).mono ?_
    rintro e w4 ⟨rfl, hb⟩
    have szw4 := hb.size
    replace x0 := kept hb (block_lt x0) x0
    replace x1 := kept hb (block_lt x1) x1
    replace s0 := kept hb (block_lt s0) s0
    replace s1 := kept hb (block_lt s1) s1
    replace s2 := kept hb (block_lt s2) s2
    replace s3 := kept hb (block_lt s3) s3
    replace r := Lib.hid (r.out.bel hb)
    replace bb := Lib.hid (bb.out.trans (hb.mono bb.out.size))
    clear hb
    rw [hq2]
    cases q2 with
    | false =>
      have hc : ¬ (0 ≤ B ∧ B < n ∧ 0 ≤ D ∧ D < W) := fun h => by have := cellB_iff.2 h; rw [hq2] at this; cases this
      have hq := Lib.hid (placeB_no (W := W) (n := xs.length) (A := A) (B := B) (C := C) (D := D) (by have := hlH.out; omega))
      clear hq2 hc
      go_wp2_with fail
      go_ret
      exact ⟨by rw [okB_no2 hq.out]; rfl, bb.out⟩
    | true =>
      have hc2 := cellB_iff.1 hq2
      clear hq2
      obtain ⟨A, rfl⟩ := Int.eq_ofNat_of_zero_le hc1.1
      obtain ⟨B, rfl⟩ := Int.eq_ofNat_of_zero_le hc2.1
      obtain ⟨C, rfl⟩ := Int.eq_ofNat_of_zero_le hc1.2.2.1
      obtain ⟨D, rfl⟩ := Int.eq_ofNat_of_zero_le hc2.2.2.1
      have hE := Lib.hid (okB_yes hI.out (A := A) (B := B) (C := C) (D := D) (by omega) (by omega) (by omega) (by omega))
      go_wp2_with fail
      refine (crosses_any W a n cap xs A B C D _ r.out hI.out (by omega) (by omega) (by omega) (by omega)).mono ?_
      rintro e w5 ⟨rfl, hb⟩
      have szw5 := hb.size
      replace x0 := kept hb (block_lt x0) x0
      replace x1 := kept hb (block_lt x1) x1
      replace s0 := kept hb (block_lt s0) s0
      replace s1 := kept hb (block_lt s1) s1
      replace s2 := kept hb (block_lt s2) s2
      replace s3 := kept hb (block_lt s3) s3
      replace r := Lib.hid (r.out.bel hb)
      replace bb := Lib.hid (bb.out.trans (hb.mono bb.out.size))
      clear hb
      go_wp2_with fail
      go_ret
      exact ⟨by rw [hE.out]; rfl, bb.out⟩

set_option maxHeartbeats 1000000 in
theorem okx_no (W : Nat) (a : Option Addr) (n cap : Nat) (xs : List Int) (A B C D : Int) (w : World) (h : Row w a n xs) (hv : Im W n xs) (hp : placeB W n A B C D = false) :
    Calls Try.prog 90 #[.agg #[.int .i64 W, .slice a n cap], .agg #[.int .i64 A, .int .i64 B, .int .i64 C, .int .i64 D]] w fun e w' => e = .returned (.bool false) ∧ Below w.heap.size w w' := by
  obtain ⟨W0, hW0⟩ : ∃ W0, W0 = (w.alloc (.cells #[.int .i64 W, .slice a n cap] 25)).alloc (.cells #[.int .i64 A, .int .i64 B, .int .i64 C, .int .i64 D] 37) := ⟨_, rfl⟩
  have bb : Hid (Below w.heap.size w W0) := by subst hW0; exact ((Below.refl _ _).alloc (Nat.le_refl _) _).alloc (by simp) _
  have x0 : W0.cell? ⟨w.heap.size, 0, none⟩ = some (.int .i64 W) := by subst hW0; go_simp
  have x1 : W0.cell? ⟨w.heap.size, 1, none⟩ = some (.slice a n cap) := by subst hW0; go_simp
  have s0 : W0.cell? ⟨w.heap.size + 1, 0, none⟩ = some (.int .i64 A) := by subst hW0; go_simp
  have s1 : W0.cell? ⟨w.heap.size + 1, 1, none⟩ = some (.int .i64 B) := by subst hW0; go_simp
  have s2 : W0.cell? ⟨w.heap.size + 1, 2, none⟩ = some (.int .i64 C) := by subst hW0; go_simp
  have s3 : W0.cell? ⟨w.heap.size + 1, 3, none⟩ = some (.int .i64 D) := by subst hW0; go_simp
  have r := Lib.hid (h.bel bb.out)
  clear h
  have hw6 := hv.w6
  have hn6 := hv.l6
  clear hv
  go_enter Try.func90, Try.ntmps90
  go_wp2_with fail
  rw [← hW0]
  clear hW0
  refine (in_any _ _ _ _).mono ?_
  rintro e w0_ ⟨rfl, rfl⟩
  by_cases h0 : inB B 0 ((n : Int) - 1) = true
  case neg =>
    have h0 : inB B 0 ((n : Int) - 1) = false := by simpa using h0
    rw [h0]
    go_wp2_with fail
    go_ret
    exact ⟨rfl, bb.out⟩
  rw [h0]
  have g0 := inB_iff.1 h0
  clear h0
  go_wp2_with fail
  refine (in_any _ _ _ _).mono ?_
  rintro e w1_ ⟨rfl, rfl⟩
  by_cases h1 : inB D 0 ((W : Int) - 1) = true
  case neg =>
    have h1 : inB D 0 ((W : Int) - 1) = false := by simpa using h1
    rw [h1]
    go_wp2_with fail
    go_ret
    exact ⟨rfl, bb.out⟩
  rw [h1]
  have g1 := inB_iff.1 h1
  clear h1
  go_wp2_with fail
  refine (in_any _ _ _ _).mono ?_
  rintro e w2_ ⟨rfl, rfl⟩
  by_cases h2 : inB A 0 (B - 1) = true
  case neg =>
    have h2 : inB A 0 (B - 1) = false := by simpa using h2
    rw [h2]
    go_wp2_with fail
    go_ret
    exact ⟨rfl, bb.out⟩
  rw [h2]
  have g2 := inB_iff.1 h2
  clear h2
  go_wp2_with fail
  refine (in_any _ _ _ _).mono ?_
  rintro e w3_ ⟨rfl, rfl⟩
  by_cases h3 : inB C 0 (D - 1) = true
  case neg =>
    have h3 : inB C 0 (D - 1) = false := by simpa using h3
    rw [h3]
    go_wp2_with fail
    go_ret
    exact ⟨rfl, bb.out⟩
  rw [h3]
  have g3 := inB_iff.1 h3
  clear h3
  exact absurd (placeB_iff.2 (show 0 ≤ A ∧ A < B ∧ B < (n : Int) ∧ 0 ≤ C ∧ C < D ∧ D < (W : Int) by omega)) (by rw [hp]; simp)

set_option maxHeartbeats 1000000 in
theorem swok_spec (W : Int) (a : Option Addr) (n cap : Nat) (xs : List Int) (A B C D : Int) (w : World) (h : Row w a n xs) (hm : n ≤ 9223372036854775807) :
    Calls Try.prog 89 #[.agg #[.int .i64 W, .slice a n cap], .agg #[.int .i64 A, .int .i64 B, .int .i64 C, .int .i64 D]] w fun e w' => e = .returned (.bool (okB W xs A B C D)) ∧ Below w.heap.size w w' := by
  obtain ⟨W0, hW0⟩ : ∃ W0, W0 = (w.alloc (.cells #[.int .i64 W, .slice a n cap] 25)).alloc (.cells #[.int .i64 A, .int .i64 B, .int .i64 C, .int .i64 D] 37) := ⟨_, rfl⟩
  have bb : Hid (Below w.heap.size w W0) := by subst hW0; exact ((Below.refl _ _).alloc (Nat.le_refl _) _).alloc (by simp) _
  have x0 : W0.cell? ⟨w.heap.size, 0, none⟩ = some (.int .i64 W) := by subst hW0; go_simp
  have x1 : W0.cell? ⟨w.heap.size, 1, none⟩ = some (.slice a n cap) := by subst hW0; go_simp
  have s0 : W0.cell? ⟨w.heap.size + 1, 0, none⟩ = some (.int .i64 A) := by subst hW0; go_simp
  have s1 : W0.cell? ⟨w.heap.size + 1, 1, none⟩ = some (.int .i64 B) := by subst hW0; go_simp
  have s2 : W0.cell? ⟨w.heap.size + 1, 2, none⟩ = some (.int .i64 C) := by subst hW0; go_simp
  have s3 : W0.cell? ⟨w.heap.size + 1, 3, none⟩ = some (.int .i64 D) := by subst hW0; go_simp
  have r := Lib.hid (h.bel bb.out)
  clear h
  have hl := r.out.1
  have hlH := Lib.hid hl
  clear hl
  by_cases hv : validB W xs = true
  case neg =>
    have hv : validB W xs = false := by simpa using hv
    go_enter Try.func89, Try.ntmps89
    go_wp2_with fail
    rw [← hW0]
    clear hW0
    refine (valid_spec _ _ _ _ xs _ r.out hm).mono ?_
    rintro e w1 ⟨rfl, hb⟩
    have szw1 := hb.size
    replace x0 := kept hb (block_lt x0) x0
    replace x1 := kept hb (block_lt x1) x1
    replace s0 := kept hb (block_lt s0) s0
    replace s1 := kept hb (block_lt s1) s1
    replace s2 := kept hb (block_lt s2) s2
    replace s3 := kept hb (block_lt s3) s3
    replace r := Lib.hid (r.out.bel hb)
    replace bb := Lib.hid (bb.out.trans (hb.mono bb.out.size))
    clear hb
    rw [hv]
    go_wp2_with fail
    go_ret
    exact ⟨by rw [okB_no1 hv]; rfl, bb.out⟩
  have hI0 := validB_W hv
  obtain ⟨W, rfl⟩ := Int.eq_ofNat_of_zero_le (by omega : 0 ≤ W)
  have hI : Im W n xs := Im.of hv hlH.out
  replace hI := Lib.hid hI
  go_enter Try.func89, Try.ntmps89
  go_wp2_with fail
  rw [← hW0]
  clear hW0
  refine (valid_spec _ _ _ _ xs _ r.out hm).mono ?_
  rintro e w2 ⟨rfl, hb⟩
  have szw2 := hb.size
  replace x0 := kept hb (block_lt x0) x0
  replace x1 := kept hb (block_lt x1) x1
  replace s0 := kept hb (block_lt s0) s0
  replace s1 := kept hb (block_lt s1) s1
  replace s2 := kept hb (block_lt s2) s2
  replace s3 := kept hb (block_lt s3) s3
  replace r := Lib.hid (r.out.bel hb)
  replace bb := Lib.hid (bb.out.trans (hb.mono bb.out.size))
  clear hb
  rw [hv]
  replace hv := Lib.hid hv
  obtain ⟨q1, hq1⟩ : ∃ q, placeB W n A B C D = q := ⟨_, rfl⟩
  cases q1 with
  | false =>
    have hq := Lib.hid hq1
    clear hq1
    go_wp2_with fail
    refine (okx_no W a n cap xs A B C D _ r.out hI.out hq.out).mono ?_
    rintro e w3 ⟨rfl, hb⟩
    have szw3 := hb.size
    replace x0 := kept hb (block_lt x0) x0
    replace x1 := kept hb (block_lt x1) x1
    replace s0 := kept hb (block_lt s0) s0
    replace s1 := kept hb (block_lt s1) s1
    replace s2 := kept hb (block_lt s2) s2
    replace s3 := kept hb (block_lt s3) s3
    replace r := Lib.hid (r.out.bel hb)
    replace bb := Lib.hid (bb.out.trans (hb.mono bb.out.size))
    clear hb
    go_wp2_with fail
    go_ret
    exact ⟨by rw [okB_no2 (by rw [hlH.out]; exact hq.out)]; rfl, bb.out⟩
  | true =>
    have hc := placeB_iff.1 hq1
    clear hq1
    obtain ⟨A, rfl⟩ := Int.eq_ofNat_of_zero_le (show 0 ≤ A by omega)
    obtain ⟨B, rfl⟩ := Int.eq_ofNat_of_zero_le (show 0 ≤ B by omega)
    obtain ⟨C, rfl⟩ := Int.eq_ofNat_of_zero_le (show 0 ≤ C by omega)
    obtain ⟨D, rfl⟩ := Int.eq_ofNat_of_zero_le (show 0 ≤ D by omega)
    have hE := Lib.hid (okB_yes hI.out (A := A) (B := B) (C := C) (D := D) (by omega) (by omega) (by omega) (by omega))
    go_wp2_with fail
    refine (okx_any W a n cap xs A B C D _ r.out hI.out (by omega) (by omega) (by omega) (by omega)).mono ?_
    rintro e w4 ⟨rfl, hb⟩
    have szw4 := hb.size
    replace x0 := kept hb (block_lt x0) x0
    replace x1 := kept hb (block_lt x1) x1
    replace s0 := kept hb (block_lt s0) s0
    replace s1 := kept hb (block_lt s1) s1
    replace s2 := kept hb (block_lt s2) s2
    replace s3 := kept hb (block_lt s3) s3
    replace r := Lib.hid (r.out.bel hb)
    replace bb := Lib.hid (bb.out.trans (hb.mono bb.out.size))
    clear hb
    go_wp2_with fail
    go_ret
    exact ⟨by rw [hE.out]; rfl, bb.out⟩
end Go.Proofs.Yteejopkimlkhoaa

