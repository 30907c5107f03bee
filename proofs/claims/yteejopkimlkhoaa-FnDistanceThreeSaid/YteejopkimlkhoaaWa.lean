/-
  The contracts of the functions that count different cells of two images, of the program and the model.
-/
import Derived.Test.YteejopkimlkhoaaVb
import Derived.Test.YteejopkimlkhoaaKb
import Derived.Test.YteejopkimlkhoaaK
namespace Go.Proofs.Yteejopkimlkhoaa
set_option maxRecDepth 100000
open Go.RowKit

/-- Two valid images of one shape. -/
def shapeB (V : Int) (xs : List Int) (W : Int) (ys : List Int) : Bool := validB V xs && (validB W ys && (decide (V = W) && decide (xs.length = ys.length)))
theorem shape_no1 {V W : Int} {xs ys : List Int} (h : validB V xs = false) : shapeB V xs W ys = false := by simp [shapeB, h]
theorem shape_no2 {V W : Int} {xs ys : List Int} (h : validB W ys = false) : shapeB V xs W ys = false := by simp [shapeB, h]
theorem shape_no3 {V W : Int} {xs ys : List Int} (h : ¬ V = W) : shapeB V xs W ys = false := by simp [shapeB, h]
theorem shape_no4 {V W : Int} {xs ys : List Int} (h : ¬ xs.length = ys.length) : shapeB V xs W ys = false := by simp [shapeB, h]
theorem shape_yes {V W : Int} {xs ys : List Int} (h1 : validB V xs = true) (h2 : validB W ys = true) (h3 : V = W) (h4 : xs.length = ys.length) : shapeB V xs W ys = true := by subst h3; simp [shapeB, h1, h2, h4]
theorem shape_im {V W : Int} {xs ys : List Int} {n m : Nat} (hx : xs.length = n) (hy : ys.length = m) (h : shapeB V xs W ys = true) : ∃ K : Nat, V = K ∧ W = K ∧ n = m ∧ Im K n xs ∧ Im K n ys := by
  simp only [shapeB, Bool.and_eq_true, decide_eq_true_eq] at h
  obtain ⟨h1, h2, h3, h4⟩ := h
  have hw := validB_W h1
  obtain ⟨K, rfl⟩ := Int.eq_ofNat_of_zero_le (by omega : 0 ≤ V)
  subst h3
  have e : n = m := by omega
  exact ⟨K, rfl, rfl, e, Im.of h1 hx, Im.of h2 (by omega)⟩
theorem Im.shape {K n : Nat} {xs ys : List Int} (h : Im K n xs) (h' : Im K n ys) : shapeB K xs K ys = true := shape_yes h.valid h'.valid rfl (by rw [h.hl, h'.hl])
/-- What ImageDistance gives. -/
def farOut (V : Int) (xs : List Int) (W : Int) (ys : List Int) : Int := if shapeB V xs W ys = true then farL xs ys V.toNat xs.length else -1
theorem farOut_no {V W : Int} {xs ys : List Int} (h : shapeB V xs W ys = false) : farOut V xs W ys = -1 := if_neg (by rw [h]; simp)
theorem farOut_yes {K n : Nat} {xs ys : List Int} (h : Im K n xs) (h' : Im K n ys) : farOut K xs K ys = farL xs ys K n := by
  unfold farOut; rw [if_pos (h.shape h'), h.hl, Int.toNat_natCast]

/-- The boxes of two images. -/
structure B2 (w wr : World) (V : Int) (a : Option Addr) (n c : Nat) (xs : List Int) (W : Int) (b : Option Addr) (m d : Nat) (ys : List Int) : Prop where
  x0 : wr.cell? ⟨w.heap.size, 0, none⟩ = some (.int .i64 V)
  x1 : wr.cell? ⟨w.heap.size, 1, none⟩ = some (.slice a n c)
  y0 : wr.cell? ⟨w.heap.size + 1, 0, none⟩ = some (.int .i64 W)
  y1 : wr.cell? ⟨w.heap.size + 1, 1, none⟩ = some (.slice b m d)
  p : Row wr a n xs
  q : Row wr b m ys
  bel : Below w.heap.size w wr
theorem B2.move {w wr w1 : World} {V : Int} {a : Option Addr} {n c : Nat} {xs : List Int} {W : Int} {b : Option Addr} {m d : Nat} {ys : List Int} (h : B2 w wr V a n c xs W b m d ys) (hb : Below wr.heap.size wr w1) : B2 w w1 V a n c xs W b m d ys :=
  ⟨kept hb (block_lt h.x0) h.x0, kept hb (block_lt h.x1) h.x1, kept hb (block_lt h.y0) h.y0, kept hb (block_lt h.y1) h.y1, h.p.bel hb, h.q.bel hb, h.bel.trans (hb.mono h.bel.size)⟩
theorem B2.start {w : World} {V : Int} {a : Option Addr} {n c : Nat} {xs : List Int} {W : Int} {b : Option Addr} {m d : Nat} {ys : List Int} (h : Row w a n xs) (h' : Row w b m ys) :
    B2 w ((w.alloc (.cells #[.int .i64 V, .slice a n c] 25)).alloc (.cells #[.int .i64 W, .slice b m d] 25)) V a n c xs W b m d ys := by
  have hb : Below w.heap.size w ((w.alloc (.cells #[.int .i64 V, .slice a n c] 25)).alloc (.cells #[.int .i64 W, .slice b m d] 25)) := ((Below.refl _ _).alloc (Nat.le_refl _) _).alloc (by simp) _
  exact ⟨by go_simp, by go_simp, by go_simp, by go_simp, h.bel hb, h'.bel hb, hb⟩

theorem xor_pair : ∀ n, n < 64 → ∀ m, m < 64 → 0 ≤ bits BinOp.xor IntKind.i64 ((n : Nat) : Int) ((m : Nat) : Int) ∧ bits BinOp.xor IntKind.i64 ((n : Nat) : Int) ((m : Nat) : Int) ≤ 63 ∧ cntI (bits BinOp.xor IntKind.i64 ((n : Nat) : Int) ((m : Nat) : Int)) 6 = sumI (fun j => if bitI ((n : Nat) : Int) j = bitI ((m : Nat) : Int) j then 0 else 1) 6 := by decide +kernel
theorem sum_cut {f : Nat → Int} {K : Nat} : ∀ {k : Nat}, K ≤ k → (∀ j, K ≤ j → j < k → f j = 0) → sumI f k = sumI f K
  | 0, h, _ => by rw [show K = 0 by omega]
  | k + 1, h, hz => by
    by_cases e : K = k + 1
    · rw [e]
    · show sumI f k + f k = _
      rw [sum_cut (k := k) (by omega) (fun j h1 h2 => hz j h1 (by omega)), hz k (by omega) (by omega)]; omega
/-- The different cells of two rows are counted by their numbers. -/
theorem xor_row {K n : Nat} {xs ys : List Int} (h : Im K n xs) (h' : Im K n ys) {i : Nat} (hi : i < n) :
    (0 ≤ bits BinOp.xor IntKind.i64 (xs.getD i 0) (ys.getD i 0) ∧ bits BinOp.xor IntKind.i64 (xs.getD i 0) (ys.getD i 0) ≤ 63) ∧ cntI (bits BinOp.xor IntKind.i64 (xs.getD i 0) (ys.getD i 0)) 6 = sumI (fun j => bI (cellOf xs i j != cellOf ys i j)) K := by
  obtain ⟨u, eu, hu⟩ := h.nat hi
  obtain ⟨v, ev, hv⟩ := h'.nat hi
  have hp := xor_pair u hu v hv
  rw [← eu, ← ev] at hp
  refine ⟨⟨hp.1, hp.2.1⟩, ?_⟩
  have hw6 := h.w6
  have r1 := h.row i hi
  have r2 := h'.row i hi
  rw [hp.2.2, sum_cut (K := K) (k := 6) hw6 fun j h1 _ => by (try dsimp only); rw [bit_high r1.1 r1.2 h1, bit_high r2.1 r2.2 h1, if_pos rfl]]
  refine sum_ext fun j _ => ?_
  (try dsimp only)
  rw [cell_bit, cell_bit]
  cases cellOf xs i j <;> cases cellOf ys i j <;> rfl
theorem far_bd36 {K n : Nat} {xs : List Int} (h : Im K n xs) (ys : List Int) {k : Nat} (hk : k ≤ n) : 0 ≤ farI (cellOf xs) (cellOf ys) K k ∧ farI (cellOf xs) (cellOf ys) K k ≤ 36 := by
  have h1 := far_nn (cellOf xs) (cellOf ys) K k
  have h2 := far_le (cellOf xs) (cellOf ys) K k
  have h3 := h.w6
  have h4 := h.l6
  have h5 : (k : Int) * (K : Int) ≤ 6 * 6 := by rw [← Int.natCast_mul]; have := Nat.mul_le_mul (show k ≤ 6 by omega) h3; omega
  omega

set_option maxHeartbeats 1000000 in
theorem shape_impl (V W : Int) (a b : Option Addr) (n m c d : Nat) (xs ys : List Int) (w : World) (h : Row w a n xs) (h' : Row w b m ys) (hm : n ≤ 9223372036854775807) (hm' : m ≤ 9223372036854775807) :
    Calls Try.prog 60 #[.agg #[.int .i64 V, .slice a n c], .agg #[.int .i64 W, .slice b m d]] w fun e w' => e = .returned (.bool (shapeB V xs W ys)) ∧ Below w.heap.size w w' := by
  have hlx := Lib.hid h.1
  have hly := Lib.hid h'.1
  obtain ⟨W0, hW0⟩ : ∃ W0, W0 = (w.alloc (.cells #[.int .i64 V, .slice a n c] 25)).alloc (.cells #[.int .i64 W, .slice b m d] 25) := ⟨_, rfl⟩
  have hB : Hid (B2 w W0 V a n c xs W b m d ys) := by subst hW0; exact B2.start h h'
  clear h h'
  have x0 := hB.out.x0
  have x1 := hB.out.x1
  have y0 := hB.out.y0
  have y1 := hB.out.y1
  by_cases hv : validB V xs = true
  case neg =>
    have hv : validB V xs = false := by simpa using hv
    go_enter Try.func60, Try.ntmps60
    go_wp2_with fail
    rw [← hW0]
    clear hW0
    refine (valid_impl _ _ _ _ xs _ hB.out.p hm).mono ?_
    rintro e w1 ⟨rfl, hb⟩
    replace hB := Lib.hid (hB.out.move hb)
    clear x0 x1 y0 y1 hb
    have x0 := hB.out.x0
    have x1 := hB.out.x1
    have y0 := hB.out.y0
    have y1 := hB.out.y1
    rw [hv]
    go_wp2_with fail
    go_ret
    exact ⟨by rw [shape_no1 hv]; first | done | rfl, hB.out.bel⟩
  by_cases hu : validB W ys = true
  case neg =>
    have hu : validB W ys = false := by simpa using hu
    go_enter Try.func60, Try.ntmps60
    go_wp2_with fail
    rw [← hW0]
    clear hW0
    refine (valid_impl _ _ _ _ xs _ hB.out.p hm).mono ?_
    rintro e w2 ⟨rfl, hb⟩
    replace hB := Lib.hid (hB.out.move hb)
    clear x0 x1 y0 y1 hb
    have x0 := hB.out.x0
    have x1 := hB.out.x1
    have y0 := hB.out.y0
    have y1 := hB.out.y1
    rw [hv]
    go_wp2_with fail
    refine (valid_impl _ _ _ _ ys _ hB.out.q hm').mono ?_
    rintro e w3 ⟨rfl, hb⟩
    replace hB := Lib.hid (hB.out.move hb)
    clear x0 x1 y0 y1 hb
    have x0 := hB.out.x0
    have x1 := hB.out.x1
    have y0 := hB.out.y0
    have y1 := hB.out.y1
    rw [hu]
    go_wp2_with fail
    go_ret
    exact ⟨by rw [shape_no2 hu]; first | done | rfl, hB.out.bel⟩
  by_cases e1 : V = W
  case neg =>
    have d1 : (V == W) = false := by simpa using e1
    have hS := Lib.hid (shape_no3 (xs := xs) (ys := ys) e1)
    go_enter Try.func60, Try.ntmps60
    go_wp2_with fail
    rw [← hW0]
    clear hW0
    refine (valid_impl _ _ _ _ xs _ hB.out.p hm).mono ?_
    rintro e w4 ⟨rfl, hb⟩
    replace hB := Lib.hid (hB.out.move hb)
    clear x0 x1 y0 y1 hb
    have x0 := hB.out.x0
    have x1 := hB.out.x1
    have y0 := hB.out.y0
    have y1 := hB.out.y1
    rw [hv]
    go_wp2_with fail
    refine (valid_impl _ _ _ _ ys _ hB.out.q hm').mono ?_
    rintro e w5 ⟨rfl, hb⟩
    replace hB := Lib.hid (hB.out.move hb)
    clear x0 x1 y0 y1 hb
    have x0 := hB.out.x0
    have x1 := hB.out.x1
    have y0 := hB.out.y0
    have y1 := hB.out.y1
    rw [hu]
    clear e1
    go_wp2_with fail
    go_ret
    exact ⟨by rw [hS.out]; first | done | rfl, hB.out.bel⟩
  by_cases e2 : n = m
  case neg =>
    have d1 : ((n : Int) == (m : Int)) = false := by simpa using (show ¬ (n : Int) = m by omega)
    have hS := Lib.hid (shape_no4 (V := V) (W := W) (show ¬ xs.length = ys.length by rw [hlx.out, hly.out]; exact e2))
    subst e1
    go_enter Try.func60, Try.ntmps60
    go_wp2_with fail
    rw [← hW0]
    clear hW0
    refine (valid_impl _ _ _ _ xs _ hB.out.p hm).mono ?_
    rintro e w6 ⟨rfl, hb⟩
    replace hB := Lib.hid (hB.out.move hb)
    clear x0 x1 y0 y1 hb
    have x0 := hB.out.x0
    have x1 := hB.out.x1
    have y0 := hB.out.y0
    have y1 := hB.out.y1
    rw [hv]
    go_wp2_with fail
    refine (valid_impl _ _ _ _ ys _ hB.out.q hm').mono ?_
    rintro e w7 ⟨rfl, hb⟩
    replace hB := Lib.hid (hB.out.move hb)
    clear x0 x1 y0 y1 hb
    have x0 := hB.out.x0
    have x1 := hB.out.x1
    have y0 := hB.out.y0
    have y1 := hB.out.y1
    rw [hu]
    clear e2
    go_wp2_with fail
    go_ret
    exact ⟨by rw [hS.out]; first | done | rfl, hB.out.bel⟩
  have hS := Lib.hid (shape_yes hv hu e1 (show xs.length = ys.length by rw [hlx.out, hly.out]; exact e2))
  subst e1
  subst e2
  go_enter Try.func60, Try.ntmps60
  go_wp2_with fail
  rw [← hW0]
  clear hW0
  refine (valid_impl _ _ _ _ xs _ hB.out.p hm).mono ?_
  rintro e w8 ⟨rfl, hb⟩
  replace hB := Lib.hid (hB.out.move hb)
  clear x0 x1 y0 y1 hb
  have x0 := hB.out.x0
  have x1 := hB.out.x1
  have y0 := hB.out.y0
  have y1 := hB.out.y1
  rw [hv]
  go_wp2_with fail
  refine (valid_impl _ _ _ _ ys _ hB.out.q hm').mono ?_
  rintro e w9 ⟨rfl, hb⟩
  replace hB := Lib.hid (hB.out.move hb)
  clear x0 x1 y0 y1 hb
  have x0 := hB.out.x0
  have x1 := hB.out.x1
  have y0 := hB.out.y0
  have y1 := hB.out.y1
  rw [hu]
  go_wp2_with fail
  go_ret
  exact ⟨by rw [hS.out]; first | done | rfl, hB.out.bel⟩

set_option maxHeartbeats 1000000 in
theorem shape_spec (V W : Int) (a b : Option Addr) (n m c d : Nat) (xs ys : List Int) (w : World) (h : Row w a n xs) (h' : Row w b m ys) (hm : n ≤ 9223372036854775807) (hm' : m ≤ 9223372036854775807) :
    Calls Try.prog 62 #[.agg #[.int .i64 V, .slice a n c], .agg #[.int .i64 W, .slice b m d]] w fun e w' => e = .returned (.bool (shapeB V xs W ys)) ∧ Below w.heap.size w w' := by
  have hlx := Lib.hid h.1
  have hly := Lib.hid h'.1
  obtain ⟨W0, hW0⟩ : ∃ W0, W0 = (w.alloc (.cells #[.int .i64 V, .slice a n c] 25)).alloc (.cells #[.int .i64 W, .slice b m d] 25) := ⟨_, rfl⟩
  have hB : Hid (B2 w W0 V a n c xs W b m d ys) := by subst hW0; exact B2.start h h'
  clear h h'
  have x0 := hB.out.x0
  have x1 := hB.out.x1
  have y0 := hB.out.y0
  have y1 := hB.out.y1
  by_cases hv : validB V xs = true
  case neg =>
    have hv : validB V xs = false := by simpa using hv
    go_enter Try.func62, Try.ntmps62
    go_wp2_with fail
    rw [← hW0]
    clear hW0
    refine (valid_spec _ _ _ _ xs _ hB.out.p hm).mono ?_
    rintro e w1 ⟨rfl, hb⟩
    replace hB := Lib.hid (hB.out.move hb)
    clear x0 x1 y0 y1 hb
    have x0 := hB.out.x0
    have x1 := hB.out.x1
    have y0 := hB.out.y0
    have y1 := hB.out.y1
    rw [hv]
    go_wp2_with fail
    go_ret
    exact ⟨by rw [shape_no1 hv]; first | done | rfl, hB.out.bel⟩
  by_cases hu : validB W ys = true
  case neg =>
    have hu : validB W ys = false := by simpa using hu
    go_enter Try.func62, Try.ntmps62
    go_wp2_with fail
    rw [← hW0]
    clear hW0
    refine (valid_spec _ _ _ _ xs _ hB.out.p hm).mono ?_
    rintro e w2 ⟨rfl, hb⟩
    replace hB := Lib.hid (hB.out.move hb)
    clear x0 x1 y0 y1 hb
    have x0 := hB.out.x0
    have x1 := hB.out.x1
    have y0 := hB.out.y0
    have y1 := hB.out.y1
    rw [hv]
    go_wp2_with fail
    refine (valid_spec _ _ _ _ ys _ hB.out.q hm').mono ?_
    rintro e w3 ⟨rfl, hb⟩
    replace hB := Lib.hid (hB.out.move hb)
    clear x0 x1 y0 y1 hb
    have x0 := hB.out.x0
    have x1 := hB.out.x1
    have y0 := hB.out.y0
    have y1 := hB.out.y1
    rw [hu]
    go_wp2_with fail
    go_ret
    exact ⟨by rw [shape_no2 hu]; first | done | rfl, hB.out.bel⟩
  by_cases e1 : V = W
  case neg =>
    have d1 : (V == W) = false := by simpa using e1
    have hS := Lib.hid (shape_no3 (xs := xs) (ys := ys) e1)
    go_enter Try.func62, Try.ntmps62
    go_wp2_with fail
    rw [← hW0]
    clear hW0
    refine (valid_spec _ _ _ _ xs _ hB.out.p hm).mono ?_
    rintro e w4 ⟨rfl, hb⟩
    replace hB := Lib.hid (hB.out.move hb)
    clear x0 x1 y0 y1 hb
    have x0 := hB.out.x0
    have x1 := hB.out.x1
    have y0 := hB.out.y0
    have y1 := hB.out.y1
    rw [hv]
    go_wp2_with fail
    refine (valid_spec _ _ _ _ ys _ hB.out.q hm').mono ?_
    rintro e w5 ⟨rfl, hb⟩
    replace hB := Lib.hid (hB.out.move hb)
    clear x0 x1 y0 y1 hb
    have x0 := hB.out.x0
    have x1 := hB.out.x1
    have y0 := hB.out.y0
    have y1 := hB.out.y1
    rw [hu]
    clear e1
    go_wp2_with fail
    go_ret
    exact ⟨by rw [hS.out]; first | done | rfl, hB.out.bel⟩
  by_cases e2 : n = m
  case neg =>
    have d1 : ((n : Int) == (m : Int)) = false := by simpa using (show ¬ (n : Int) = m by omega)
    have hS := Lib.hid (shape_no4 (V := V) (W := W) (show ¬ xs.length = ys.length by rw [hlx.out, hly.out]; exact e2))
    subst e1
    go_enter Try.func62, Try.ntmps62
    go_wp2_with fail
    rw [← hW0]
    clear hW0
    refine (valid_spec _ _ _ _ xs _ hB.out.p hm).mono ?_
    rintro e w6 ⟨rfl, hb⟩
    replace hB := Lib.hid (hB.out.move hb)
    clear x0 x1 y0 y1 hb
    have x0 := hB.out.x0
    have x1 := hB.out.x1
    have y0 := hB.out.y0
    have y1 := hB.out.y1
    rw [hv]
    go_wp2_with fail
    refine (valid_spec _ _ _ _ ys _ hB.out.q hm').mono ?_
    rintro e w7 ⟨rfl, hb⟩
    replace hB := Lib.hid (hB.out.move hb)
    clear x0 x1 y0 y1 hb
    have x0 := hB.out.x0
    have x1 := hB.out.x1
    have y0 := hB.out.y0
    have y1 := hB.out.y1
    rw [hu]
    clear e2
    go_wp2_with fail
    go_ret
    exact ⟨by rw [hS.out]; first | done | rfl, hB.out.bel⟩
  have hS := Lib.hid (shape_yes hv hu e1 (show xs.length = ys.length by rw [hlx.out, hly.out]; exact e2))
  subst e1
  subst e2
  go_enter Try.func62, Try.ntmps62
  go_wp2_with fail
  rw [← hW0]
  clear hW0
  refine (valid_spec _ _ _ _ xs _ hB.out.p hm).mono ?_
  rintro e w8 ⟨rfl, hb⟩
  replace hB := Lib.hid (hB.out.move hb)
  clear x0 x1 y0 y1 hb
  have x0 := hB.out.x0
  have x1 := hB.out.x1
  have y0 := hB.out.y0
  have y1 := hB.out.y1
  rw [hv]
  go_wp2_with fail
  refine (valid_spec _ _ _ _ ys _ hB.out.q hm').mono ?_
  rintro e w9 ⟨rfl, hb⟩
  replace hB := Lib.hid (hB.out.move hb)
  clear x0 x1 y0 y1 hb
  have x0 := hB.out.x0
  have x1 := hB.out.x1
  have y0 := hB.out.y0
  have y1 := hB.out.y1
  rw [hu]
  go_wp2_with fail
  go_ret
  exact ⟨by rw [hS.out]; first | done | rfl, hB.out.bel⟩

set_option maxHeartbeats 1000000 in
theorem far_impl (V W : Int) (a b : Option Addr) (n m c d : Nat) (xs ys : List Int) (w : World) (h : Row w a n xs) (h' : Row w b m ys) (hm : n ≤ 9223372036854775807) (hm' : m ≤ 9223372036854775807) :
    Calls Try.prog 24 #[.agg #[.int .i64 V, .slice a n c], .agg #[.int .i64 W, .slice b m d]] w fun e w' => e = .returned (.int .i64 (farOut V xs W ys)) ∧ Below w.heap.size w w' := by
  have hlx := Lib.hid h.1
  have hly := Lib.hid h'.1
  obtain ⟨W0, hW0⟩ : ∃ W0, W0 = (w.alloc (.cells #[.int .i64 V, .slice a n c] 25)).alloc (.cells #[.int .i64 W, .slice b m d] 25) := ⟨_, rfl⟩
  have hB : Hid (B2 w W0 V a n c xs W b m d ys) := by subst hW0; exact B2.start h h'
  clear h h'
  have x0 := hB.out.x0
  have x1 := hB.out.x1
  have y0 := hB.out.y0
  have y1 := hB.out.y1
  by_cases hv : shapeB V xs W ys = true
  case neg =>
    have hv : shapeB V xs W ys = false := by simpa using hv
    go_enter Try.func24, Try.ntmps24
    go_wp2_with fail
    rw [← hW0]
    clear hW0
    refine (shape_impl _ _ _ _ _ _ _ _ xs ys _ hB.out.p hB.out.q hm hm').mono ?_
    rintro e w1 ⟨rfl, hb⟩
    replace hB := Lib.hid (hB.out.move hb)
    clear x0 x1 y0 y1 hb
    have x0 := hB.out.x0
    have x1 := hB.out.x1
    have y0 := hB.out.y0
    have y1 := hB.out.y1
    rw [hv]
    go_wp2_with fail
    go_ret
    exact ⟨by rw [farOut_no hv]; first | done | rfl, hB.out.bel⟩
  obtain ⟨K, rfl, rfl, rfl, hI, hJ⟩ := shape_im hlx.out hly.out hv
  have hK6 := hI.w6
  have hn6 := hI.l6
  rw [farOut_yes hI hJ]
  have hX := Lib.hid fun i (hi : i < n) => xor_row hI hJ hi
  have hF := Lib.hid fun k (hk : k ≤ n) => far_bd36 hI ys hk
  replace hI := Lib.hid hI
  replace hJ := Lib.hid hJ
  go_enter Try.func24, Try.ntmps24
  go_wp2_with fail
  rw [← hW0]
  clear hW0
  refine (shape_impl _ _ _ _ _ _ _ _ xs ys _ hB.out.p hB.out.q hm hm').mono ?_
  rintro e w2 ⟨rfl, hb⟩
  replace hB := Lib.hid (hB.out.move hb)
  clear x0 x1 y0 y1 hb
  have x0 := hB.out.x0
  have x1 := hB.out.x1
  have y0 := hB.out.y0
  have y1 := hB.out.y1
  rw [hv]
  clear hv
  go_wp2_with fail
  go_loopw [5, 14] (fun o i wr => ∃ k : Nat, k ≤ n ∧ i = .int .i64 k ∧ o = .int .i64 (farI (cellOf xs) (cellOf ys) K k) ∧ Hid (B2 w wr K a n c xs K b n d ys)) (fun _ i _ => n - (intOf i).toNat)
  case atStart => exact ⟨0, Nat.zero_le _, rfl, rfl, hB⟩
  case round =>
    clear hB x0 x1 y0 y1
    obtain ⟨k, hk, rfl, rfl, hB⟩ := hrel
    have x0 := hB.out.x0
    have x1 := hB.out.x1
    have y0 := hB.out.y0
    have y1 := hB.out.y1
    by_cases hlt : k < n
    · obtain ⟨ba, oa, rfl, ca⟩ := row_at hB.out.p hlt
      obtain ⟨bb, ob, rfl, cb⟩ := row_at hB.out.q hlt
      have hx := hX.out k hlt
      have hf := hF.out k hk
      have hf1 := hF.out (k + 1) (by omega)
      have hs : farI (cellOf xs) (cellOf ys) K (k + 1) = farI (cellOf xs) (cellOf ys) K k + sumI (fun j => bI (cellOf xs k j != cellOf ys k j)) K := rfl
      rw [← hx.2] at hs
      generalize hz : bits BinOp.xor IntKind.i64 (xs.getD k 0) (ys.getD k 0) = z at hx hs
      obtain ⟨f0, hf0⟩ : ∃ f0, farI (cellOf xs) (cellOf ys) K k = f0 := ⟨_, rfl⟩
      rw [hf0] at hs hf ⊢
      clear hf0
      replace hf1 := Lib.hid hf1
      generalize xs.getD k 0 = u at ca hz
      generalize ys.getD k 0 = v at cb hz
      have hw : IntKind.u64.wrap z = z := IntWalk.u64_in z ⟨by omega, by omega⟩
      have hx1 := hx.1
      have k0 : (0 : Int) ≤ (k : Int) := Int.natCast_nonneg _
      have kn : (k : Int) < (n : Int) := by omega
      replace hs := Lib.hid hs
      replace hx := Lib.hid hx
      have g1 := fun p : Bw wr => bw_cell x1 p
      have g2 := fun p : Bw wr => bw_cell y1 p
      have g3 := fun p : Bw wr => bw_cell ca p
      have g4 := fun p : Bw wr => bw_cell cb p
      have cc : ∀ p : Bw wr, Calls Try.prog 61 #[.int .u64 z] p.v (fun e w' => e = .returned (.int .i64 (cntI z 6)) ∧ ∃ q : Bw wr, w' = q.v) := fun p =>
        (ones_any z p.v hx1.1 hx1.2).mono fun _ _ ⟨he, hw⟩ => ⟨he, p, hw.symm⟩
      replace cc := Lib.hid cc
      have hcn := cnt_bd z 6
      go_wp2_with fail
      refine wp_region_bw (by kernel_rfl) (by kernel_rfl) ?_
      repeat (go_big_quiet_step (with_reducible exact cc.out _))
      refine wpQuiet_nil ?_
      intro _ hw'
      obtain ⟨pq, rfl⟩ := hw'
      have hB2 := Lib.hid (hB.out.move pq.h)
      clear g1 g2 g3 g4 cc ca cb hB x0 x1 y0 y1
      generalize pq.v = W1 at hB2 ⊢
      clear pq
      go_wp2_with fail
      exact ⟨⟨k + 1, by omega, by go_num, by rw [hs.out]; first | done | rfl, hB2⟩, by simp [intOf]; omega⟩
    · have : k = n := by omega
      subst this
      go_wp2_with fail
      go_ret
      exact ⟨rfl, hB.out.bel⟩

set_option maxHeartbeats 1000000 in
theorem farx_any (K : Nat) (a b : Option Addr) (n c d : Nat) (xs ys : List Int) (w : World) (h : Row w a n xs) (h' : Row w b n ys) (hI : Im K n xs) (hJ : Im K n ys) :
    Calls Try.prog 63 #[.agg #[.int .i64 K, .slice a n c], .agg #[.int .i64 K, .slice b n d]] w fun e w' => e = .returned (.int .i64 (farL xs ys K n)) ∧ Below w.heap.size w w' := by
  have hK6 := hI.w6
  have hn6 := hI.l6
  obtain ⟨W0, hW0⟩ : ∃ W0, W0 = (w.alloc (.cells #[.int .i64 K, .slice a n c] 25)).alloc (.cells #[.int .i64 K, .slice b n d] 25) := ⟨_, rfl⟩
  have hB : Hid (B2 w W0 K a n c xs K b n d ys) := by subst hW0; exact B2.start h h'
  clear h h'
  have x0 := hB.out.x0
  have x1 := hB.out.x1
  have y0 := hB.out.y0
  have y1 := hB.out.y1
  have hF := Lib.hid fun k (hk : k ≤ n) => far_bd36 hI ys hk
  have g1 := Lib.hid (fun (s : Option Addr) (c i j : Nat) (wx : World) (h : Row wx s n xs) (hi : i < n) (hj : j < K) => get_any K s n c xs i j wx h hI (by omega) (by omega))
  have g2 := Lib.hid (fun (s : Option Addr) (c i j : Nat) (wx : World) (h : Row wx s n ys) (hi : i < n) (hj : j < K) => get_any K s n c ys i j wx h hJ (by omega) (by omega))
  replace hI := Lib.hid hI
  replace hJ := Lib.hid hJ
  go_enter Try.func63, Try.ntmps63
  go_wp2_with fail
  rw [← hW0]
  clear hW0
  go_loopw [5, 6] (fun o i wr => ∃ k : Nat, k ≤ n ∧ i = .int .i64 k ∧ o = .int .i64 (farI (cellOf xs) (cellOf ys) K k) ∧ Hid (B2 w wr K a n c xs K b n d ys)) (fun _ i _ => n - (intOf i).toNat)
  case atStart => exact ⟨0, Nat.zero_le _, rfl, rfl, hB⟩
  case round =>
    clear hB x0 x1 y0 y1
    obtain ⟨i, hi1, rfl, rfl, hB⟩ := hrel
    obtain ⟨wi, rfl⟩ : ∃ wi : World, wi = wr := ⟨_, rfl⟩
    have x0 := hB.out.x0
    have x1 := hB.out.x1
    have y0 := hB.out.y0
    have y1 := hB.out.y1
    by_cases hlt : i < n
    · have hf := hF.out i hi1
      have hf1 := Lib.hid (hF.out (i + 1) (by omega))
      have hs : Hid (farI (cellOf xs) (cellOf ys) K (i + 1) = farI (cellOf xs) (cellOf ys) K i + sumI (fun j => bI (cellOf xs i j != cellOf ys i j)) K) := rfl
      obtain ⟨f0, hf0⟩ : ∃ f0, farI (cellOf xs) (cellOf ys) K i = f0 := ⟨_, rfl⟩
      rw [hf0] at hs hf ⊢
      clear hf0
      go_wp2_with fail
      go_loopw [5, 7] (fun o q wr => ∃ j : Nat, j ≤ K ∧ q = .int .i64 j ∧ o = .int .i64 (f0 + sumI (fun j => bI (cellOf xs i j != cellOf ys i j)) j) ∧ Hid (B2 w wr K a n c xs K b n d ys)) (fun _ i _ => K - (intOf i).toNat)
      case atStart => exact ⟨0, Nat.zero_le _, rfl, by simp [sumI], hB⟩
      case round =>
        clear hB x0 x1 y0 y1
        obtain ⟨j, hj1, rfl, rfl, hB⟩ := hrel
        obtain ⟨wj, rfl⟩ : ∃ wj : World, wj = wr := ⟨_, rfl⟩
        have x0 := hB.out.x0
        have x1 := hB.out.x1
        have y0 := hB.out.y0
        have y1 := hB.out.y1
        by_cases hlj : j < K
        · have hn := Lib.hid (show sumI (fun j => bI (cellOf xs i j != cellOf ys i j)) (j + 1) = sumI (fun j => bI (cellOf xs i j != cellOf ys i j)) j + bI (cellOf xs i j != cellOf ys i j) from rfl)
          have hsb := sum_bd (f := fun j => bI (cellOf xs i j != cellOf ys i j)) (fun j => bI_01 _) j
          have cx := Lib.hid (cell_bit xs i j)
          have cy := Lib.hid (cell_bit ys i j)
          have q1 := fun p : Bw wj => bw_cell x0 p
          have q2 := fun p : Bw wj => bw_cell x1 p
          have q3 := fun p : Bw wj => bw_cell y0 p
          have q4 := fun p : Bw wj => bw_cell y1 p
          have c1 : ∀ p : Bw wj, Calls Try.prog 100 #[.agg #[.int .i64 K, .slice a n c], .int .i64 i, .int .i64 j] p.v (fun e w' => e = .returned (.int .i64 (bitI (xs.getD i 0) j)) ∧ ∃ q : Bw wj, w' = q.v) := fun p => bw_of (g1.out _ _ i j _ (bw_row hB.out.p p) hlt hlj)
          have c2 : ∀ p : Bw wj, Calls Try.prog 100 #[.agg #[.int .i64 K, .slice b n d], .int .i64 i, .int .i64 j] p.v (fun e w' => e = .returned (.int .i64 (bitI (ys.getD i 0) j)) ∧ ∃ q : Bw wj, w' = q.v) := fun p => bw_of (g2.out _ _ i j _ (bw_row hB.out.q p) hlt hlj)
          rw [cx.out] at c1
          rw [cy.out] at c2
          replace c1 := Lib.hid c1
          replace c2 := Lib.hid c2
          obtain ⟨s0, hs0⟩ : ∃ s0, sumI (fun j => bI (cellOf xs i j != cellOf ys i j)) j = s0 := ⟨_, rfl⟩
          rw [hs0] at hn hsb ⊢
          clear hs0
          obtain ⟨u, hu⟩ : ∃ u, cellOf xs i j = u := ⟨_, rfl⟩
          obtain ⟨v, hv⟩ : ∃ v, cellOf ys i j = v := ⟨_, rfl⟩
          rw [hu] at c1
          rw [hv] at c2
          have hn3 : Hid (sumI (fun j => bI (cellOf xs i j != cellOf ys i j)) (j + 1) = s0 + bI (u != v)) := Lib.hid (by rw [hn.out, hu, hv])
          clear cx cy hu hv hn
          go_wp2_with fail
          refine wp_region_bw (by kernel_rfl) (by kernel_rfl) ?_
          repeat (go_big_quiet_step (first | (with_reducible exact c1.out _) | (with_reducible exact c2.out _)))
          refine wpQuiet_nil ?_
          intro _ hw'
          obtain ⟨pq, rfl⟩ := hw'
          have hB2 := Lib.hid (hB.out.move pq.h)
          clear q1 q2 q3 q4 c1 c2 hB x0 x1 y0 y1
          generalize pq.v = W1 at hB2 ⊢
          clear pq
          cases u <;> cases v
          · have hn2 : Hid (sumI (fun j => bI (cellOf xs i j != cellOf ys i j)) (j + 1) = s0 + 0) := hn3.out
            go_wp2_with fail
            exact ⟨⟨j + 1, by omega, by go_num, by rw [hn2.out]; first | go_num | (congr 1; omega), hB2⟩, by simp [intOf]; omega⟩
          · have hn2 : Hid (sumI (fun j => bI (cellOf xs i j != cellOf ys i j)) (j + 1) = s0 + 1) := hn3.out
            go_wp2_with fail
            exact ⟨⟨j + 1, by omega, by go_num, by rw [hn2.out]; first | go_num | (congr 1; omega), hB2⟩, by simp [intOf]; omega⟩
          · have hn2 : Hid (sumI (fun j => bI (cellOf xs i j != cellOf ys i j)) (j + 1) = s0 + 1) := hn3.out
            go_wp2_with fail
            exact ⟨⟨j + 1, by omega, by go_num, by rw [hn2.out]; first | go_num | (congr 1; omega), hB2⟩, by simp [intOf]; omega⟩
          · have hn2 : Hid (sumI (fun j => bI (cellOf xs i j != cellOf ys i j)) (j + 1) = s0 + 0) := hn3.out
            go_wp2_with fail
            exact ⟨⟨j + 1, by omega, by go_num, by rw [hn2.out]; first | go_num | (congr 1; omega), hB2⟩, by simp [intOf]; omega⟩
        · have : j = K := by omega
          subst this
          go_wp2_with fail
          exact ⟨⟨i + 1, by omega, by go_num, by rw [hs.out], hB⟩, by simp [intOf]; omega⟩
    · have : i = n := by omega
      subst this
      go_wp2_with fail
      go_ret
      exact ⟨rfl, hB.out.bel⟩

set_option maxHeartbeats 1000000 in
theorem far_spec (V W : Int) (a b : Option Addr) (n m c d : Nat) (xs ys : List Int) (w : World) (h : Row w a n xs) (h' : Row w b m ys) (hm : n ≤ 9223372036854775807) (hm' : m ≤ 9223372036854775807) :
    Calls Try.prog 25 #[.agg #[.int .i64 V, .slice a n c], .agg #[.int .i64 W, .slice b m d]] w fun e w' => e = .returned (.int .i64 (farOut V xs W ys)) ∧ Below w.heap.size w w' := by
  have hlx := Lib.hid h.1
  have hly := Lib.hid h'.1
  obtain ⟨W0, hW0⟩ : ∃ W0, W0 = (w.alloc (.cells #[.int .i64 V, .slice a n c] 25)).alloc (.cells #[.int .i64 W, .slice b m d] 25) := ⟨_, rfl⟩
  have hB : Hid (B2 w W0 V a n c xs W b m d ys) := by subst hW0; exact B2.start h h'
  clear h h'
  have x0 := hB.out.x0
  have x1 := hB.out.x1
  have y0 := hB.out.y0
  have y1 := hB.out.y1
  by_cases hv : shapeB V xs W ys = true
  case neg =>
    have hv : shapeB V xs W ys = false := by simpa using hv
    go_enter Try.func25, Try.ntmps25
    go_wp2_with fail
    rw [← hW0]
    clear hW0
    refine (shape_spec _ _ _ _ _ _ _ _ xs ys _ hB.out.p hB.out.q hm hm').mono ?_
    rintro e w1 ⟨rfl, hb⟩
    replace hB := Lib.hid (hB.out.move hb)
    clear x0 x1 y0 y1 hb
    have x0 := hB.out.x0
    have x1 := hB.out.x1
    have y0 := hB.out.y0
    have y1 := hB.out.y1
    rw [hv]
    go_wp2_with fail
    go_ret
    exact ⟨by rw [farOut_no hv]; first | done | rfl, hB.out.bel⟩
  obtain ⟨K, rfl, rfl, rfl, hI, hJ⟩ := shape_im hlx.out hly.out hv
  have hK6 := hI.w6
  have hn6 := hI.l6
  rw [farOut_yes hI hJ]
  replace hI := Lib.hid hI
  replace hJ := Lib.hid hJ
  go_enter Try.func25, Try.ntmps25
  go_wp2_with fail
  rw [← hW0]
  clear hW0
  refine (shape_spec _ _ _ _ _ _ _ _ xs ys _ hB.out.p hB.out.q hm hm').mono ?_
  rintro e w2 ⟨rfl, hb⟩
  replace hB := Lib.hid (hB.out.move hb)
  clear x0 x1 y0 y1 hb
  have x0 := hB.out.x0
  have x1 := hB.out.x1
  have y0 := hB.out.y0
  have y1 := hB.out.y1
  rw [hv]
  clear hv
  go_wp2_with fail
  refine (farx_any _ _ _ _ _ _ xs ys _ hB.out.p hB.out.q hI.out hJ.out).mono ?_
  rintro e w3 ⟨rfl, hb⟩
  replace hB := Lib.hid (hB.out.move hb)
  clear x0 x1 y0 y1 hb
  have x0 := hB.out.x0
  have x1 := hB.out.x1
  have y0 := hB.out.y0
  have y1 := hB.out.y1
  go_wp2_with fail
  go_ret
  exact ⟨rfl, hB.out.bel⟩
end Go.Proofs.Yteejopkimlkhoaa

