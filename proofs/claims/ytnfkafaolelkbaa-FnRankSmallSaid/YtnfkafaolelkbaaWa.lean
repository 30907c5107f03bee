/-
  The contracts of the functions that count different cells of two images, of the program and the model.
  The contract of the model's SwitchToward.
  The contract of the program's SwitchToward.
-/
import Derived.Test.YtnfkafaolelkbaaVa
import Derived.Test.YtnfkafaolelkbaaKa
import Derived.Test.YtnfkafaolelkbaaK
import Derived.Test.YtnfkafaolelkbaaKh
import Derived.Deep.RegionHeld3
import Derived.Test.YtnfkafaolelkbaaQi

namespace Go.Proofs.Ytnfkafaolelkbaa
set_option maxRecDepth 100000
open Go.RowKit

/-- Two valid images of one shape. -/
def shapeB (V : Int) (xs : List Int) (W : Int) (ys : List Int) : Bool := validB V xs && (validB W ys && (decide (V = W) && decide (xs.length = ys.length)))
theorem shape_no1 {V W : Int} {xs ys : List Int} (h : validB V xs = false) : shapeB V xs W ys = false := by simp [shapeB, h]
theorem shape_no2 {V W : Int} {xs ys : List Int} (h : validB W ys = false) : shapeB V xs W ys = false := by simp [shapeB, h]
theorem shape_no3 {V W : Int} {xs ys : List Int} (h : ¬ V = W) : shapeB V xs W ys = false := by simp [shapeB, h]
theorem shape_no4 {V W : Int} {xs ys : List Int} (h : ¬ xs.length = ys.length) : shapeB V xs W ys = false := by simp [shapeB, h]
theorem shape_yes {V W : Int} {xs ys : List Int} (h1 : validB V xs = true) (h2 : validB W ys = true) (h3 : V = W) (h4 : xs.length = ys.length) : shapeB V xs W ys = true := by subst h3; simp [shapeB, h1, h2, h4]
theorem shape_im {V W : Int} {xs ys : List Int} {n m : Nat} (hx : xs.length = n) (hy : ys.length = m) (h : shapeB V xs W ys = true) : ∃ K : Nat, V = K ∧ W = K ∧ n = m ∧ Im K n xs ∧ Im K n ys := by
  simp only [shapeB, Bool.and_eq_true, decide_eq_true_eq] at h
  obtain ⟨h1, h2, h3, h4⟩ := h
  have hw := validB_W h1
  obtain ⟨K, rfl⟩ := Int.eq_ofNat_of_zero_le (by omega : 0 ≤ V)
  subst h3
  have e : n = m := by omega
  exact ⟨K, rfl, rfl, e, Im.of h1 hx, Im.of h2 (by omega)⟩
theorem Im.shape {K n : Nat} {xs ys : List Int} (h : Im K n xs) (h' : Im K n ys) : shapeB K xs K ys = true := shape_yes h.valid h'.valid rfl (by rw [h.hl, h'.hl])
/-- What ImageDistance gives. -/
def farOut (V : Int) (xs : List Int) (W : Int) (ys : List Int) : Int := if shapeB V xs W ys = true then farL xs ys V.toNat xs.length else -1
theorem farOut_no {V W : Int} {xs ys : List Int} (h : shapeB V xs W ys = false) : farOut V xs W ys = -1 := if_neg (by rw [h]; simp)
theorem farOut_yes {K n : Nat} {xs ys : List Int} (h : Im K n xs) (h' : Im K n ys) : farOut K xs K ys = farL xs ys K n := by
  unfold farOut; rw [if_pos (h.shape h'), h.hl, Int.toNat_natCast]

/-- The boxes of two images. -/
structure B2 (w wr : World) (V : Int) (a : Option Addr) (n c : Nat) (xs : List Int) (W : Int) (b : Option Addr) (m d : Nat) (ys : List Int) : Prop where
  x0 : wr.cell? ⟨w.heap.size, 0, none⟩ = some (.int .i64 V)
  x1 : wr.cell? ⟨w.heap.size, 1, none⟩ = some (.slice a n c)
  y0 : wr.cell? ⟨w.heap.size + 1, 0, none⟩ = some (.int .i64 W)
  y1 : wr.cell? ⟨w.heap.size + 1, 1, none⟩ = some (.slice b m d)
  p : Row wr a n xs
  q : Row wr b m ys
  bel : Below w.heap.size w wr
theorem B2.move {w wr w1 : World} {V : Int} {a : Option Addr} {n c : Nat} {xs : List Int} {W : Int} {b : Option Addr} {m d : Nat} {ys : List Int} (h : B2 w wr V a n c xs W b m d ys) (hb : Below wr.heap.size wr w1) : B2 w w1 V a n c xs W b m d ys :=
  ⟨kept hb (block_lt h.x0) h.x0, kept hb (block_lt h.x1) h.x1, kept hb (block_lt h.y0) h.y0, kept hb (block_lt h.y1) h.y1, h.p.bel hb, h.q.bel hb, h.bel.trans (hb.mono h.bel.size)⟩
theorem B2.start {w : World} {V : Int} {a : Option Addr} {n c : Nat} {xs : List Int} {W : Int} {b : Option Addr} {m d : Nat} {ys : List Int} (h : Row w a n xs) (h' : Row w b m ys) :
    B2 w ((w.alloc (.cells #[.int .i64 V, .slice a n c] 30)).alloc (.cells #[.int .i64 W, .slice b m d] 30)) V a n c xs W b m d ys := by
  have hb : Below w.heap.size w ((w.alloc (.cells #[.int .i64 V, .slice a n c] 30)).alloc (.cells #[.int .i64 W, .slice b m d] 30)) := ((Below.refl _ _).alloc (Nat.le_refl _) _).alloc (by simp) _
  exact ⟨by go_simp, by go_simp, by go_simp, by go_simp, h.bel hb, h'.bel hb, hb⟩

theorem xor_pair : ∀ n, n < 64 → ∀ m, m < 64 → 0 ≤ bits BinOp.xor IntKind.i64 ((n : Nat) : Int) ((m : Nat) : Int) ∧ bits BinOp.xor IntKind.i64 ((n : Nat) : Int) ((m : Nat) : Int) ≤ 63 ∧ cntI (bits BinOp.xor IntKind.i64 ((n : Nat) : Int) ((m : Nat) : Int)) 6 = sumI (fun j => if bitI ((n : Nat) : Int) j = bitI ((m : Nat) : Int) j then 0 else 1) 6 := by decide +kernel
theorem sum_cut {f : Nat → Int} {K : Nat} : ∀ {k : Nat}, K ≤ k → (∀ j, K ≤ j → j < k → f j = 0) → sumI f k = sumI f K
  | 0, h, _ => by rw [show K = 0 by omega]
  | k + 1, h, hz => by
    by_cases e : K = k + 1
    · rw [e]
    · show sumI f k + f k = _
      rw [sum_cut (k := k) (by omega) (fun j h1 h2 => hz j h1 (by omega)), hz k (by omega) (by omega)]; omega
/-- The different cells of two rows are counted by their numbers. -/
theorem xor_row {K n : Nat} {xs ys : List Int} (h : Im K n xs) (h' : Im K n ys) {i : Nat} (hi : i < n) :
    (0 ≤ bits BinOp.xor IntKind.i64 (xs.getD i 0) (ys.getD i 0) ∧ bits BinOp.xor IntKind.i64 (xs.getD i 0) (ys.getD i 0) ≤ 63) ∧ cntI (bits BinOp.xor IntKind.i64 (xs.getD i 0) (ys.getD i 0)) 6 = sumI (fun j => bI (cellOf xs i j != cellOf ys i j)) K := by
  obtain ⟨u, eu, hu⟩ := h.nat hi
  obtain ⟨v, ev, hv⟩ := h'.nat hi
  have hp := xor_pair u hu v hv
  rw [← eu, ← ev] at hp
  refine ⟨⟨hp.1, hp.2.1⟩, ?_⟩
  have hw6 := h.w6
  have r1 := h.row i hi
  have r2 := h'.row i hi
  rw [hp.2.2, sum_cut (K := K) (k := 6) hw6 fun j h1 _ => by (try dsimp only); rw [bit_high r1.1 r1.2 h1, bit_high r2.1 r2.2 h1, if_pos rfl]]
  refine sum_ext fun j _ => ?_
  (try dsimp only)
  rw [cell_bit, cell_bit]
  cases cellOf xs i j <;> cases cellOf ys i j <;> rfl
theorem far_bd36 {K n : Nat} {xs : List Int} (h : Im K n xs) (ys : List Int) {k : Nat} (hk : k ≤ n) : 0 ≤ farI (cellOf xs) (cellOf ys) K k ∧ farI (cellOf xs) (cellOf ys) K k ≤ 36 := by
  have h1 := far_nn (cellOf xs) (cellOf ys) K k
  have h2 := far_le (cellOf xs) (cellOf ys) K k
  have h3 := h.w6
  have h4 := h.l6
  have h5 : (k : Int) * (K : Int) ≤ 6 * 6 := by rw [← Int.natCast_mul]; have := Nat.mul_le_mul (show k ≤ 6 by omega) h3; omega
  omega

set_option maxHeartbeats 1000000 in
theorem shape_impl (V W : Int) (a b : Option Addr) (n m c d : Nat) (xs ys : List Int) (w : World) (h : Row w a n xs) (h' : Row w b m ys) (hm : n ≤ 9223372036854775807) (hm' : m ≤ 9223372036854775807) :
    Calls Try.prog 113 #[.agg #[.int .i64 V, .slice a n c], .agg #[.int .i64 W, .slice b m d]] w fun e w' => e = .returned (.bool (shapeB V xs W ys)) ∧ Below w.heap.size w w' := by
  have hlx := Lib.hid h.1
  have hly := Lib.hid h'.1
  obtain ⟨W0, hW0⟩ : ∃ W0, W0 = (w.alloc (.cells #[.int .i64 V, .slice a n c] 30)).alloc (.cells #[.int .i64 W, .slice b m d] 30) := ⟨_, rfl⟩
  have hB : Hid (B2 w W0 V a n c xs W b m d ys) := by subst hW0; exact B2.start h h'
  clear h h'
  have x0 := hB.out.x0
  have x1 := hB.out.x1
  have y0 := hB.out.y0
  have y1 := hB.out.y1
  by_cases hv : validB V xs = true
  case neg =>
    have hv : validB V xs = false := by simpa using hv
    go_enter Try.func113, Try.ntmps113
    go_wp2_with fail
    rw [← hW0]
    clear hW0
    refine (valid_impl _ _ _ _ xs _ hB.out.p hm).mono ?_
    rintro e w1 ⟨rfl, hb⟩
    replace hB := Lib.hid (hB.out.move hb)
    clear x0 x1 y0 y1 hb
    have x0 := hB.out.x0
    have x1 := hB.out.x1
    have y0 := hB.out.y0
    have y1 := hB.out.y1
    rw [hv]
    go_wp2_with fail
    go_ret
    exact ⟨by rw [shape_no1 hv]; first | done | rfl, hB.out.bel⟩
  by_cases hu : validB W ys = true
  case neg =>
    have hu : validB W ys = false := by simpa using hu
    go_enter Try.func113, Try.ntmps113
    go_wp2_with fail
    rw [← hW0]
    clear hW0
    refine (valid_impl _ _ _ _ xs _ hB.out.p hm).mono ?_
    rintro e w2 ⟨rfl, hb⟩
    replace hB := Lib.hid (hB.out.move hb)
    clear x0 x1 y0 y1 hb
    have x0 := hB.out.x0
    have x1 := hB.out.x1
    have y0 := hB.out.y0
    have y1 := hB.out.y1
    rw [hv]
    go_wp2_with fail
    refine (valid_impl _ _ _ _ ys _ hB.out.q hm').mono ?_
    rintro e w3 ⟨rfl, hb⟩
    replace hB := Lib.hid (hB.out.move hb)
    clear x0 x1 y0 y1 hb
    have x0 := hB.out.x0
    have x1 := hB.out.x1
    have y0 := hB.out.y0
    have y1 := hB.out.y1
    rw [hu]
    go_wp2_with fail
    go_ret
    exact ⟨by rw [shape_no2 hu]; first | done | rfl, hB.out.bel⟩
  by_cases e1 : V = W
  case neg =>
    have d1 : (V == W) = false := by simpa using e1
    have hS := Lib.hid (shape_no3 (xs := xs) (ys := ys) e1)
    go_enter Try.func113, Try.ntmps113
    go_wp2_with fail
    rw [← hW0]
    clear hW0
    refine (valid_impl _ _ _ _ xs _ hB.out.p hm).mono ?_
    rintro e w4 ⟨rfl, hb⟩
    replace hB := Lib.hid (hB.out.move hb)
    clear x0 x1 y0 y1 hb
    have x0 := hB.out.x0
    have x1 := hB.out.x1
    have y0 := hB.out.y0
    have y1 := hB.out.y1
    rw [hv]
    go_wp2_with fail
    refine (valid_impl _ _ _ _ ys _ hB.out.q hm').mono ?_
    rintro e w5 ⟨rfl, hb⟩
    replace hB := Lib.hid (hB.out.move hb)
    clear x0 x1 y0 y1 hb
    have x0 := hB.out.x0
    have x1 := hB.out.x1
    have y0 := hB.out.y0
    have y1 := hB.out.y1
    rw [hu]
    clear e1
    go_wp2_with fail
    go_ret
    exact ⟨by rw [hS.out]; first | done | rfl, hB.out.bel⟩
  by_cases e2 : n = m
  case neg =>
    have d1 : ((n : Int) == (m : Int)) = false := by simpa using (show ¬ (n : Int) = m by omega)
    have hS := Lib.hid (shape_no4 (V := V) (W := W) (show ¬ xs.length = ys.length by rw [hlx.out, hly.out]; exact e2))
    subst e1
    go_enter Try.func113, Try.ntmps113
    go_wp2_with fail
    rw [← hW0]
    clear hW0
    refine (valid_impl _ _ _ _ xs _ hB.out.p hm).mono ?_
    rintro e w6 ⟨rfl, hb⟩
    replace hB := Lib.hid (hB.out.move hb)
    clear x0 x1 y0 y1 hb
    have x0 := hB.out.x0
    have x1 := hB.out.x1
    have y0 := hB.out.y0
    have y1 := hB.out.y1
    rw [hv]
    go_wp2_with fail
    refine (valid_impl _ _ _ _ ys _ hB.out.q hm').mono ?_
    rintro e w7 ⟨rfl, hb⟩
    replace hB := Lib.hid (hB.out.move hb)
    clear x0 x1 y0 y1 hb
    have x0 := hB.out.x0
    have x1 := hB.out.x1
    have y0 := hB.out.y0
    have y1 := hB.out.y1
    rw [hu]
    clear e2
    go_wp2_with fail
    go_ret
    exact ⟨by rw [hS.out]; first | done | rfl, hB.out.bel⟩
  have hS := Lib.hid (shape_yes hv hu e1 (show xs.length = ys.length by rw [hlx.out, hly.out]; exact e2))
  subst e1
  subst e2
  go_enter Try.func113, Try.ntmps113
  go_wp2_with fail
  rw [← hW0]
  clear hW0
  refine (valid_impl _ _ _ _ xs _ hB.out.p hm).mono ?_
  rintro e w8 ⟨rfl, hb⟩
  replace hB := Lib.hid (hB.out.move hb)
  clear x0 x1 y0 y1 hb
  have x0 := hB.out.x0
  have x1 := hB.out.x1
  have y0 := hB.out.y0
  have y1 := hB.out.y1
  rw [hv]
  go_wp2_with fail
  refine (valid_impl _ _ _ _ ys _ hB.out.q hm').mono ?_
  rintro e w9 ⟨rfl, hb⟩
  replace hB := Lib.hid (hB.out.move hb)
  clear x0 x1 y0 y1 hb
  have x0 := hB.out.x0
  have x1 := hB.out.x1
  have y0 := hB.out.y0
  have y1 := hB.out.y1
  rw [hu]
  go_wp2_with fail
  go_ret
  exact ⟨by rw [hS.out]; first | done | rfl, hB.out.bel⟩

set_option maxHeartbeats 1000000 in
theorem far_impl (V W : Int) (a b : Option Addr) (n m c d : Nat) (xs ys : List Int) (w : World) (h : Row w a n xs) (h' : Row w b m ys) (hm : n ≤ 9223372036854775807) (hm' : m ≤ 9223372036854775807) :
    Calls Try.prog 114 #[.agg #[.int .i64 V, .slice a n c], .agg #[.int .i64 W, .slice b m d]] w fun e w' => e = .returned (.int .i64 (farOut V xs W ys)) ∧ Below w.heap.size w w' := by
  have hlx := Lib.hid h.1
  have hly := Lib.hid h'.1
  obtain ⟨W0, hW0⟩ : ∃ W0, W0 = (w.alloc (.cells #[.int .i64 V, .slice a n c] 30)).alloc (.cells #[.int .i64 W, .slice b m d] 30) := ⟨_, rfl⟩
  have hB : Hid (B2 w W0 V a n c xs W b m d ys) := by subst hW0; exact B2.start h h'
  clear h h'
  have x0 := hB.out.x0
  have x1 := hB.out.x1
  have y0 := hB.out.y0
  have y1 := hB.out.y1
  by_cases hv : shapeB V xs W ys = true
  case neg =>
    have hv : shapeB V xs W ys = false := by simpa using hv
    go_enter Try.func114, Try.ntmps114
    go_wp2_with fail
    rw [← hW0]
    clear hW0
    refine (shape_impl _ _ _ _ _ _ _ _ xs ys _ hB.out.p hB.out.q hm hm').mono ?_
    rintro e w1 ⟨rfl, hb⟩
    replace hB := Lib.hid (hB.out.move hb)
    clear x0 x1 y0 y1 hb
    have x0 := hB.out.x0
    have x1 := hB.out.x1
    have y0 := hB.out.y0
    have y1 := hB.out.y1
    rw [hv]
    go_wp2_with fail
    go_ret
    exact ⟨by rw [farOut_no hv]; first | done | rfl, hB.out.bel⟩
  obtain ⟨K, rfl, rfl, rfl, hI, hJ⟩ := shape_im hlx.out hly.out hv
  have hK6 := hI.w6
  have hn6 := hI.l6
  rw [farOut_yes hI hJ]
  have hX := Lib.hid fun i (hi : i < n) => xor_row hI hJ hi
  have hF := Lib.hid fun k (hk : k ≤ n) => far_bd36 hI ys hk
  replace hI := Lib.hid hI
  replace hJ := Lib.hid hJ
  go_enter Try.func114, Try.ntmps114
  go_wp2_with fail
  rw [← hW0]
  clear hW0
  refine (shape_impl _ _ _ _ _ _ _ _ xs ys _ hB.out.p hB.out.q hm hm').mono ?_
  rintro e w2 ⟨rfl, hb⟩
  replace hB := Lib.hid (hB.out.move hb)
  clear x0 x1 y0 y1 hb
  have x0 := hB.out.x0
  have x1 := hB.out.x1
  have y0 := hB.out.y0
  have y1 := hB.out.y1
  rw [hv]
  clear hv
  go_wp2_with fail
  go_loopw [5, 14] (fun o i wr => ∃ k : Nat, k ≤ n ∧ i = .int .i64 k ∧ o = .int .i64 (farI (cellOf xs) (cellOf ys) K k) ∧ Hid (B2 w wr K a n c xs K b n d ys)) (fun _ i _ => n - (intOf i).toNat)
  case atStart => exact ⟨0, Nat.zero_le _, rfl, rfl, hB⟩
  case round =>
    clear hB x0 x1 y0 y1
    obtain ⟨k, hk, rfl, rfl, hB⟩ := hrel
    have x0 := hB.out.x0
    have x1 := hB.out.x1
    have y0 := hB.out.y0
    have y1 := hB.out.y1
    by_cases hlt : k < n
    · obtain ⟨ba, oa, rfl, ca⟩ := row_at hB.out.p hlt
      obtain ⟨bb, ob, rfl, cb⟩ := row_at hB.out.q hlt
      have hx := hX.out k hlt
      have hf := hF.out k hk
      have hf1 := hF.out (k + 1) (by omega)
      have hs : farI (cellOf xs) (cellOf ys) K (k + 1) = farI (cellOf xs) (cellOf ys) K k + sumI (fun j => bI (cellOf xs k j != cellOf ys k j)) K := rfl
      rw [← hx.2] at hs
      generalize hz : bits BinOp.xor IntKind.i64 (xs.getD k 0) (ys.getD k 0) = z at hx hs
      obtain ⟨f0, hf0⟩ : ∃ f0, farI (cellOf xs) (cellOf ys) K k = f0 := ⟨_, rfl⟩
      rw [hf0] at hs hf ⊢
      clear hf0
      replace hf1 := Lib.hid hf1
      generalize xs.getD k 0 = u at ca hz
      generalize ys.getD k 0 = v at cb hz
      have hw : IntKind.u64.wrap z = z := IntWalk.u64_in z ⟨by omega, by omega⟩
      have hx1 := hx.1
      have k0 : (0 : Int) ≤ (k : Int) := Int.natCast_nonneg _
      have kn : (k : Int) < (n : Int) := by omega
      replace hs := Lib.hid hs
      replace hx := Lib.hid hx
      have g1 := fun p : Bw wr => bw_cell x1 p
      have g2 := fun p : Bw wr => bw_cell y1 p
      have g3 := fun p : Bw wr => bw_cell ca p
      have g4 := fun p : Bw wr => bw_cell cb p
      have cc : ∀ p : Bw wr, Calls Try.prog 107 #[.int .i64 z] p.v (fun e w' => e = .returned (.int .i64 (cntI z 6)) ∧ ∃ q : Bw wr, w' = q.v) := fun p =>
        (rmany_any z p.v hx1.1 hx1.2).mono fun _ _ ⟨he, hw⟩ => ⟨he, p, hw.symm⟩
      replace cc := Lib.hid cc
      have hcn := cnt_bd z 6
      go_wp2_with fail
      refine wp_region_bw (by kernel_rfl) (by kernel_rfl) ?_
      repeat (go_big_quiet_step (with_reducible exact cc.out _))
      refine wpQuiet_nil ?_
      intro _ hw'
      obtain ⟨pq, rfl⟩ := hw'
      have hB2 := Lib.hid (hB.out.move pq.h)
      clear g1 g2 g3 g4 cc ca cb hB x0 x1 y0 y1
      generalize pq.v = W1 at hB2 ⊢
      clear pq
      go_wp2_with fail
      exact ⟨⟨k + 1, by omega, by go_num, by rw [hs.out]; first | done | rfl, hB2⟩, by simp [intOf]; omega⟩
    · have : k = n := by omega
      subst this
      go_wp2_with fail
      go_ret
      exact ⟨rfl, hB.out.bel⟩

end Go.Proofs.Ytnfkafaolelkbaa

namespace Go.Proofs.Ytnfkafaolelkbaa
set_option maxRecDepth 100000
open Go.RowKit

/-- What SwitchToward gives. -/
def towOut (V : Int) (xs : List Int) (W : Int) (ys : List Int) : Option SwT := if shapeB V xs W ys = true then towL xs ys V.toNat xs.length else none
theorem towOut_no {V W : Int} {xs ys : List Int} (h : shapeB V xs W ys = false) : towOut V xs W ys = none := if_neg (by rw [h]; simp)
theorem towOut_yes {K n : Nat} {xs ys : List Int} (h : Im K n xs) (h' : Im K n ys) : towOut K xs K ys = towL xs ys K n := by
  unfold towOut; rw [if_pos (h.shape h'), h.hl, Int.toNat_natCast]
def swV : Option SwT → Value
  | some s => .tuple #[.agg #[.int .i64 s.1, .int .i64 s.2.1, .int .i64 s.2.2.1, .int .i64 s.2.2.2], .bool true]
  | none => .tuple #[.agg #[.int .i64 0, .int .i64 0, .int .i64 0, .int .i64 0], .bool false]

/-- The boxes of two images and of a switch to be given. -/
structure B3 (w wr : World) (V : Int) (a : Option Addr) (n c : Nat) (xs : List Int) (W : Int) (b : Option Addr) (m d : Nat) (ys : List Int) : Prop where
  b2 : B2 w wr V a n c xs W b m d ys
  z0 : wr.cell? ⟨w.heap.size + 1 + 1, 0, none⟩ = some (.int .i64 0)
  z1 : wr.cell? ⟨w.heap.size + 1 + 1, 1, none⟩ = some (.int .i64 0)
  z2 : wr.cell? ⟨w.heap.size + 1 + 1, 2, none⟩ = some (.int .i64 0)
  z3 : wr.cell? ⟨w.heap.size + 1 + 1, 3, none⟩ = some (.int .i64 0)
  zf : ∀ o, wr.frozen? ⟨w.heap.size + 1 + 1, o, none⟩ = false
theorem B3.move {w wr w1 : World} {V : Int} {a : Option Addr} {n c : Nat} {xs : List Int} {W : Int} {b : Option Addr} {m d : Nat} {ys : List Int} (h : B3 w wr V a n c xs W b m d ys) (hb : Below wr.heap.size wr w1) : B3 w w1 V a n c xs W b m d ys :=
  ⟨h.b2.move hb, kept hb (block_lt h.z0) h.z0, kept hb (block_lt h.z1) h.z1, kept hb (block_lt h.z2) h.z2, kept hb (block_lt h.z3) h.z3, fun o => (hb.frozen (p := ⟨w.heap.size + 1 + 1, o, none⟩) (show w.heap.size + 1 + 1 < wr.heap.size from block_lt h.z0)).trans (h.zf o)⟩
theorem B3.start {w : World} {V : Int} {a : Option Addr} {n c : Nat} {xs : List Int} {W : Int} {b : Option Addr} {m d : Nat} {ys : List Int} (h : Row w a n xs) (h' : Row w b m ys) :
    B3 w (((w.alloc (.cells #[.int .i64 V, .slice a n c] 30)).alloc (.cells #[.int .i64 W, .slice b m d] 30)).alloc (.cells #[.int .i64 0, .int .i64 0, .int .i64 0, .int .i64 0] 97)) V a n c xs W b m d ys := by
  exact ⟨(B2.start h h').move ((Below.refl _ _).alloc (Nat.le_refl _) _), by go_simp, by go_simp, by go_simp, by go_simp, fun o => by go_simp⟩
theorem heldT {w W W' : World} {p0 p1 q0 q1 c0 c1 c2 c3 : Addr} {u0 u1 v0 v1 t0 t1 t2 t3 : Value} {V : Int} {a : Option Addr} {n c : Nat} {xs : List Int} {U : Int} {b : Option Addr} {m d : Nat} {ys : List Int} {al : Option Addr} {N : Nat} {L : List SwT}
    (h : W.cell? p0 = some u0 ∧ W.cell? p1 = some u1 ∧ W.cell? q0 = some v0 ∧ W.cell? q1 = some v1 ∧ W.cell? c0 = some t0 ∧ W.cell? c1 = some t1 ∧ W.cell? c2 = some t2 ∧ W.cell? c3 = some t3 ∧ Hid (B3 w W V a n c xs U b m d ys) ∧ Hid (SRow W al N L)) (hb : Below W.heap.size W W') :
    W'.cell? p0 = some u0 ∧ W'.cell? p1 = some u1 ∧ W'.cell? q0 = some v0 ∧ W'.cell? q1 = some v1 ∧ W'.cell? c0 = some t0 ∧ W'.cell? c1 = some t1 ∧ W'.cell? c2 = some t2 ∧ W'.cell? c3 = some t3 ∧ Hid (B3 w W' V a n c xs U b m d ys) ∧ Hid (SRow W' al N L) :=
  ⟨kept hb (block_lt h.1) h.1, kept hb (block_lt h.2.1) h.2.1, kept hb (block_lt h.2.2.1) h.2.2.1, kept hb (block_lt h.2.2.2.1) h.2.2.2.1, kept hb (block_lt h.2.2.2.2.1) h.2.2.2.2.1, kept hb (block_lt h.2.2.2.2.2.1) h.2.2.2.2.2.1, kept hb (block_lt h.2.2.2.2.2.2.1) h.2.2.2.2.2.2.1, kept hb (block_lt h.2.2.2.2.2.2.2.1) h.2.2.2.2.2.2.2.1, Lib.hid (h.2.2.2.2.2.2.2.2.1.out.move hb), Lib.hid (h.2.2.2.2.2.2.2.2.2.out.bel hb)⟩
theorem setQ4 {u : World} {k : Nat} {u0 u1 u2 u3 : Value} (v0 v1 v2 v3 : Value) (h0 : u.cell? ⟨k, 0, none⟩ = some u0) (h1 : u.cell? ⟨k, 1, none⟩ = some u1) (h2 : u.cell? ⟨k, 2, none⟩ = some u2) (h3 : u.cell? ⟨k, 3, none⟩ = some u3) :
    ((((u.setCell ⟨k, 0, none⟩ v0).setCell ⟨k, 1, none⟩ v1).setCell ⟨k, 2, none⟩ v2).setCell ⟨k, 3, none⟩ v3).cell? ⟨k, 0, none⟩ = some v0 ∧ ((((u.setCell ⟨k, 0, none⟩ v0).setCell ⟨k, 1, none⟩ v1).setCell ⟨k, 2, none⟩ v2).setCell ⟨k, 3, none⟩ v3).cell? ⟨k, 1, none⟩ = some v1 ∧
    ((((u.setCell ⟨k, 0, none⟩ v0).setCell ⟨k, 1, none⟩ v1).setCell ⟨k, 2, none⟩ v2).setCell ⟨k, 3, none⟩ v3).cell? ⟨k, 2, none⟩ = some v2 ∧ ((((u.setCell ⟨k, 0, none⟩ v0).setCell ⟨k, 1, none⟩ v1).setCell ⟨k, 2, none⟩ v2).setCell ⟨k, 3, none⟩ v3).cell? ⟨k, 3, none⟩ = some v3 := by
  have o : ∀ (U : World) (v x : Value) (i j : Nat), i ≠ j → U.cell? ⟨k, i, none⟩ = some v → (U.setCell ⟨k, j, none⟩ x).cell? ⟨k, i, none⟩ = some v := fun U v x i j hne h => by rw [World.cell?_setCell_other _ _ _ _ (by simp)]; exact h
  have s : ∀ (U : World) (v x : Value) (i : Nat), U.cell? ⟨k, i, none⟩ = some v → (U.setCell ⟨k, i, none⟩ x).cell? ⟨k, i, none⟩ = some x := fun U v x i h => World.cell?_setCell_same _ _ _ h
  have a1 := o _ _ v0 1 0 (by omega) h1
  have a2 := o _ _ v1 2 1 (by omega) (o _ _ v0 2 0 (by omega) h2)
  have a3 := o _ _ v2 3 2 (by omega) (o _ _ v1 3 1 (by omega) (o _ _ v0 3 0 (by omega) h3))
  exact ⟨o _ _ v3 0 3 (by omega) (o _ _ v2 0 2 (by omega) (o _ _ v1 0 1 (by omega) (s _ _ v0 0 h0))), o _ _ v3 1 3 (by omega) (o _ _ v2 1 2 (by omega) (s _ _ v1 1 a1)), o _ _ v3 2 3 (by omega) (s _ _ v2 2 a2), s _ _ v3 3 a3⟩
theorem belQ4 {w V : World} {k : Nat} {v0 v1 v2 v3 : Value} (h : Below w.heap.size w V) (hk : w.heap.size ≤ k) : Below w.heap.size w ((((V.setCell ⟨k, 0, none⟩ v0).setCell ⟨k, 1, none⟩ v1).setCell ⟨k, 2, none⟩ v2).setCell ⟨k, 3, none⟩ v3) :=
  (((h.setCell hk _).setCell hk _).setCell hk _).setCell hk _

end Go.Proofs.Ytnfkafaolelkbaa

namespace Go.Proofs.Ytnfkafaolelkbaa
set_option maxRecDepth 100000
open Go.RowKit
attribute [local go_sem] Oper.semAt_some wide_fn

/-- Within the search: the boxes of the images, of the results and of the distance. -/
structure FT (w V : World) (K n c : Nat) (a : Option Addr) (xs : List Int) (b : Option Addr) (d : Nat) (ys : List Int) (kd : Nat) (f0 : Int) : Prop where
  b3 : B3 w V K a n c xs K b n d ys
  k0 : V.cell? ⟨w.heap.size + 1 + 1 + 1, 0, none⟩ = some (.bool false)
  kf : V.frozen? ⟨w.heap.size + 1 + 1 + 1, 0, none⟩ = false
  dd : V.cell? ⟨kd, 0, none⟩ = some (.int .i64 f0)
theorem B3.free {w A B : World} {V : Int} {a : Option Addr} {n c : Nat} {xs : List Int} {W : Int} {b : Option Addr} {m d : Nat} {ys : List Int} {k : Nat} (h : B3 w A V a n c xs W b m d ys) (hs : Spare (Free k) A B) (hm : w.heap.size ≤ k) : B3 w B V a n c xs W b m d ys :=
  ⟨⟨hs.fcell h.b2.x0, hs.fcell h.b2.x1, hs.fcell h.b2.y0, hs.fcell h.b2.y1, hs.srow h.b2.p, hs.srow h.b2.q, stays_below (β := Unit) hm (Nat.le_refl _) () _ _ h.b2.bel hs⟩,
    hs.fcell h.z0, hs.fcell h.z1, hs.fcell h.z2, hs.fcell h.z3, fun o => (World.frozen?_of_block (a := ⟨w.heap.size + 1 + 1, o, none⟩) (hs.fblock (p := ⟨w.heap.size + 1 + 1, 0, none⟩) h.z0)).trans (h.zf o)⟩
theorem FT.free {w A B : World} {K n c : Nat} {a : Option Addr} {xs : List Int} {b : Option Addr} {d : Nat} {ys : List Int} {kd : Nat} {f0 : Int} {k : Nat} (h : FT w A K n c a xs b d ys kd f0) (hs : Spare (Free k) A B) (hm : w.heap.size ≤ k) : FT w B K n c a xs b d ys kd f0 :=
  ⟨h.b3.free hs hm, hs.fcell h.k0, (hs.ffrozen h.k0).trans h.kf, hs.fcell h.dd⟩
theorem FT.move {w A B : World} {K n c : Nat} {a : Option Addr} {xs : List Int} {b : Option Addr} {d : Nat} {ys : List Int} {kd : Nat} {f0 : Int} (h : FT w A K n c a xs b d ys kd f0) (hb : Below A.heap.size A B) : FT w B K n c a xs b d ys kd f0 :=
  h.free (k := w.heap.size) (Spare.below hb (Nat.le_refl _)) (Nat.le_refl _)
/-- Behind it: the switch is given. -/
structure FU (w V : World) (x : SwT) : Prop where
  z0 : V.cell? ⟨w.heap.size + 1 + 1, 0, none⟩ = some (.int .i64 x.1)
  z1 : V.cell? ⟨w.heap.size + 1 + 1, 1, none⟩ = some (.int .i64 x.2.1)
  z2 : V.cell? ⟨w.heap.size + 1 + 1, 2, none⟩ = some (.int .i64 x.2.2.1)
  z3 : V.cell? ⟨w.heap.size + 1 + 1, 3, none⟩ = some (.int .i64 x.2.2.2)
  k0 : V.cell? ⟨w.heap.size + 1 + 1 + 1, 0, none⟩ = some (.bool true)
  bel : Below w.heap.size w V
theorem FU.free {w A B : World} {x : SwT} {k : Nat} (h : FU w A x) (hs : Spare (Free k) A B) (hm : w.heap.size ≤ k) : FU w B x :=
  ⟨hs.fcell h.z0, hs.fcell h.z1, hs.fcell h.z2, hs.fcell h.z3, hs.fcell h.k0, stays_below (β := Unit) hm (Nat.le_refl _) () _ _ h.bel hs⟩
/-- The switch and the flag are stored. -/
theorem put5 {u : World} {k : Nat} {u0 u1 u2 u3 t : Value} (v0 v1 v2 v3 s : Value) (h0 : u.cell? ⟨k, 0, none⟩ = some u0) (h1 : u.cell? ⟨k, 1, none⟩ = some u1) (h2 : u.cell? ⟨k, 2, none⟩ = some u2) (h3 : u.cell? ⟨k, 3, none⟩ = some u3) (h4 : u.cell? ⟨k + 1, 0, none⟩ = some t)
    (U : World) (hU : U = ((((u.setCell ⟨k, 0, none⟩ v0).setCell ⟨k, 1, none⟩ v1).setCell ⟨k, 2, none⟩ v2).setCell ⟨k, 3, none⟩ v3).setCell ⟨k + 1, 0, none⟩ s) :
    U.cell? ⟨k, 0, none⟩ = some v0 ∧ U.cell? ⟨k, 1, none⟩ = some v1 ∧ U.cell? ⟨k, 2, none⟩ = some v2 ∧ U.cell? ⟨k, 3, none⟩ = some v3 ∧ U.cell? ⟨k + 1, 0, none⟩ = some s := by
  subst hU
  have a := setQ4 v0 v1 v2 v3 h0 h1 h2 h3
  have e : ((((u.setCell ⟨k, 0, none⟩ v0).setCell ⟨k, 1, none⟩ v1).setCell ⟨k, 2, none⟩ v2).setCell ⟨k, 3, none⟩ v3).cell? ⟨k + 1, 0, none⟩ = some t := by
    rw [World.cell?_setCell_other _ _ _ _ (by simp), World.cell?_setCell_other _ _ _ _ (by simp), World.cell?_setCell_other _ _ _ _ (by simp), World.cell?_setCell_other _ _ _ _ (by simp)]; exact h4
  generalize (((u.setCell ⟨k, 0, none⟩ v0).setCell ⟨k, 1, none⟩ v1).setCell ⟨k, 2, none⟩ v2).setCell ⟨k, 3, none⟩ v3 = U at a e
  have o : ∀ (i : Nat) (v : Value), U.cell? ⟨k, i, none⟩ = some v → (U.setCell ⟨k + 1, 0, none⟩ s).cell? ⟨k, i, none⟩ = some v := fun i v h => by rw [World.cell?_setCell_other _ _ _ _ (by simp)]; exact h
  exact ⟨o _ _ a.1, o _ _ a.2.1, o _ _ a.2.2.1, o _ _ a.2.2.2, World.cell?_setCell_same _ _ _ e⟩

set_option maxHeartbeats 4000000 in
theorem tow_impl (V W : Int) (a b : Option Addr) (n m c d : Nat) (xs ys : List Int) (w : World) (h : Row w a n xs) (h' : Row w b m ys) (hm : n ≤ 9223372036854775807) (hm' : m ≤ 9223372036854775807) :
    Calls Try.prog 103 #[.agg #[.int .i64 V, .slice a n c], .agg #[.int .i64 W, .slice b m d]] w fun e w' => e = .returned (swV (towOut V xs W ys)) ∧ Below w.heap.size w w' := by
  have hlx := Lib.hid h.1
  have hly := Lib.hid h'.1
  have hra := Lib.hid (row_lt' h)
  have hrb := Lib.hid (row_lt' h')
  obtain ⟨W0, hW0⟩ : ∃ W0, W0 = (((w.alloc (.cells #[.int .i64 V, .slice a n c] 30)).alloc (.cells #[.int .i64 W, .slice b m d] 30)).alloc (.cells #[.int .i64 0, .int .i64 0, .int .i64 0, .int .i64 0] 97)).alloc (.cells #[.bool false] 4) := ⟨_, rfl⟩
  have hB : Hid (B3 w W0 V a n c xs W b m d ys) := by subst hW0; exact (B3.start h h').move ((Below.refl _ _).alloc (Nat.le_refl _) _)
  have k0 : W0.cell? ⟨w.heap.size + 1 + 1 + 1, 0, none⟩ = some (.bool false) := by subst hW0; go_simp
  have kf : W0.frozen? ⟨w.heap.size + 1 + 1 + 1, 0, none⟩ = false := by subst hW0; go_simp
  have hz : w.heap.size + 3 < W0.heap.size := block_lt k0
  clear h h'
  have x0 := hB.out.b2.x0
  have x1 := hB.out.b2.x1
  have y0 := hB.out.b2.y0
  have y1 := hB.out.b2.y1
  by_cases hv : shapeB V xs W ys = true
  case neg =>
    have hv : shapeB V xs W ys = false := by simpa using hv
    rw [towOut_no hv]
    refine (callsIn_wide (n := 3)).1 ?_
    refine callsIn_of_wp_marks Try.func103 rfl trivial ?_ rfl
    simp only [Try.ntmps103, List.size_toArray, List.length_cons, List.length_nil, Nat.reduceAdd, Nat.reduceSub, Array.replicate_succ, Array.replicate_zero, List.push_toArray, List.append_toArray, List.nil_append, List.cons_append]
    gi_wp2
    rw [← hW0]
    clear hW0
    refine (callsIn_wide.2 (shape_impl _ _ _ _ _ _ _ _ xs ys _ hB.out.b2.p hB.out.b2.q hm hm')).mono ?_
    rintro e w1 ⟨rfl, hb⟩
    replace kf := (hb.frozen (p := ⟨w.heap.size + 1 + 1 + 1, 0, none⟩) hz).trans kf
    replace k0 := kept hb (block_lt k0) k0
    have hz1 := hb.size
    replace hB := Lib.hid (hB.out.move hb)
    clear x0 x1 y0 y1 hb
    have x0 := hB.out.b2.x0
    have x1 := hB.out.b2.x1
    have y0 := hB.out.b2.y0
    have y1 := hB.out.b2.y1
    rw [hv]
    have z0 := hB.out.z0
    have z1 := hB.out.z1
    have z2 := hB.out.z2
    have z3 := hB.out.z3
    have zf := hB.out.zf
    gi_wp2
    have h5 := put5 (.int .i64 0) (.int .i64 0) (.int .i64 0) (.int .i64 0) (.bool false) z0 z1 z2 z3 k0 _ rfl
    have hbl : Below w.heap.size w (((((w1.setCell ⟨w.heap.size + 1 + 1, 0, none⟩ (.int .i64 0)).setCell ⟨w.heap.size + 1 + 1, 1, none⟩ (.int .i64 0)).setCell ⟨w.heap.size + 1 + 1, 2, none⟩ (.int .i64 0)).setCell ⟨w.heap.size + 1 + 1, 3, none⟩ (.int .i64 0)).setCell ⟨w.heap.size + 1 + 1 + 1, 0, none⟩ (.bool false)) :=
      (belQ4 hB.out.b2.bel (by omega)).setCell (by simp; omega) _
    generalize ((((w1.setCell ⟨w.heap.size + 1 + 1, 0, none⟩ (.int .i64 0)).setCell ⟨w.heap.size + 1 + 1, 1, none⟩ (.int .i64 0)).setCell ⟨w.heap.size + 1 + 1, 2, none⟩ (.int .i64 0)).setCell ⟨w.heap.size + 1 + 1, 3, none⟩ (.int .i64 0)).setCell ⟨w.heap.size + 1 + 1 + 1, 0, none⟩ (.bool false) = U at h5 hbl ⊢
    obtain ⟨q0, q1, q2, q3, q4⟩ := h5
    exact ⟨.tuple #[.agg #[.int .i64 0, .int .i64 0, .int .i64 0, .int .i64 0], .bool false], by simp [results, Try.results103, go_sem, q0, q1, q2, q3, q4], rfl, hbl⟩
  obtain ⟨K, rfl, rfl, rfl, hI, hJ⟩ := shape_im hlx.out hly.out hv
  have hK6 := hI.w6
  have hn6 := hI.l6
  rw [towOut_yes hI hJ]
  have hf0 := fun (wx : World) (h1 : Row wx a n xs) (h2 : Row wx b n ys) => far_impl (K : Int) K a b n n c d xs ys wx h1 h2 hm hm'
  rw [farOut_yes hI hJ] at hf0
  obtain ⟨f0, hf⟩ : ∃ f0, farL xs ys K n = f0 := ⟨_, rfl⟩
  rw [hf] at hf0
  replace hf0 := Lib.hid hf0
  replace hf := Lib.hid hf
  replace hI := Lib.hid hI
  replace hJ := Lib.hid hJ
  refine (callsIn_wide (n := 3)).1 ?_
  refine callsIn_of_wp_marks Try.func103 rfl trivial ?_ rfl
  simp only [Try.ntmps103, List.size_toArray, List.length_cons, List.length_nil, Nat.reduceAdd, Nat.reduceSub, Array.replicate_succ, Array.replicate_zero, List.push_toArray, List.append_toArray, List.nil_append, List.cons_append]
  gi_wp2
  rw [← hW0]
  clear hW0
  refine (callsIn_wide.2 (shape_impl _ _ _ _ _ _ _ _ xs ys _ hB.out.b2.p hB.out.b2.q hm hm')).mono ?_
  rintro e w1 ⟨rfl, hb⟩
  replace kf := (hb.frozen (p := ⟨w.heap.size + 1 + 1 + 1, 0, none⟩) hz).trans kf
  replace k0 := kept hb (block_lt k0) k0
  have hz1 := hb.size
  replace hB := Lib.hid (hB.out.move hb)
  clear x0 x1 y0 y1 hb
  have x0 := hB.out.b2.x0
  have x1 := hB.out.b2.x1
  have y0 := hB.out.b2.y0
  have y1 := hB.out.b2.y1
  rw [hv]
  gi_wp2
  refine (callsIn_wide.2 (hf0.out _ hB.out.b2.p hB.out.b2.q)).mono ?_
  rintro e w2 ⟨rfl, hb⟩
  replace kf := (hb.frozen (p := ⟨w.heap.size + 1 + 1 + 1, 0, none⟩) (show _ < _ from block_lt k0)).trans kf
  replace k0 := kept hb (block_lt k0) k0
  have hz2 := hb.size
  replace hB := Lib.hid (hB.out.move hb)
  clear x0 x1 y0 y1 hb
  have hF : Hid (FT w (w2.alloc (.cells #[.int .i64 f0] 3)) K n c a xs b d ys w2.heap.size f0) := by
    have hb : Below w2.heap.size w2 (w2.alloc (.cells #[.int .i64 f0] 3)) := (Below.refl _ _).alloc (Nat.le_refl _) _
    exact ⟨hB.out.move hb, kept hb (block_lt k0) k0, (hb.frozen (p := ⟨w.heap.size + 1 + 1 + 1, 0, none⟩) (show _ < _ from block_lt k0)).trans kf, by simp⟩
  clear hB k0 kf
  have hN : (w2.alloc (.cells #[.int .i64 f0] 3)).heap.size = w2.heap.size + 1 := by simp
  have x0 := hF.out.b3.b2.x0
  have x1 := hF.out.b3.b2.x1
  gi_wp2
  refine (callsIn_wide.2 (switchesOf_any K a n c _)).mono ?_
  rintro e w' ⟨rfl, rfl⟩
  have hba : Below (w2.heap.size + 1) (w2.alloc (.cells #[.int .i64 f0] 3)) ((w2.alloc (.cells #[.int .i64 f0] 3)).alloc (.cells #[.int .i64 K, .slice a n c] 30)) := (Below.refl _ _).alloc (by simp) _
  have S1 : SI (w2.heap.size + 1) K n c a xs ((w2.alloc (.cells #[.int .i64 f0] 3)).alloc (.cells #[.int .i64 K, .slice a n c] 30)) := ⟨by go_simp, by go_simp, hF.out.b3.b2.p.bel (by rw [hN]; exact hba)⟩
  have hF1 := Lib.hid (hF.out.move (by rw [hN]; exact hba))
  have hN1 : ((w2.alloc (.cells #[.int .i64 f0] 3)).alloc (.cells #[.int .i64 K, .slice a n c] 30)).heap.size = w2.heap.size + 2 := by simp
  clear x0 x1 hba hF hN
  gi_wp2
  obtain ⟨w3, hw3⟩ : ∃ w3, (w2.alloc (.cells #[.int .i64 f0] 3)).alloc (.cells #[.int .i64 K, .slice a n c] 30) = w3 := ⟨_, rfl⟩
  rw [hw3] at S1 hF1 hN1 ⊢
  clear hw3
  replace hN1 := Lib.hid hN1
  have hbig : w.heap.size + 3 < w2.heap.size := by omega
  have hlist := Lib.hid (list_im hI.out)
  refine range_out (gf := 118) (lb := #[.pointer (some ⟨w2.heap.size + 1, 0, none⟩)]) (M := fun k _ => k = w.heap.size + 2 ∨ k = w.heap.size + 3) (encs := encT)
    (I := fun pre V => (∀ t ∈ pre, towP xs ys K n t = false) ∧ FT w V K n c a xs b d ys w2.heap.size f0)
    (Ix := fun cd V => cd = .ret ∧ ∃ x : SwT, towL xs ys K n = some x ∧ FU w V x)
    (Ax := fun pre x a1 V => ((∀ t ∈ pre, towP xs ys K n t = false) ∧ FT w V K n c a xs b d ys w2.heap.size f0) ∧ ∃ b5, (w2.heap.size < b5 ∧ V.heap[b5]? = some (swObj x)) ∧ a1 = {
      tmps :=
        #[.agg #[.int .i64 K, .slice a n c], .agg #[.int .i64 K, .slice b n d], .pointer (some ⟨w.heap.size, 0, none⟩), .pointer (some ⟨w.heap.size + 1, 0, none⟩), .pointer (some ⟨w.heap.size + 1 + 1, 0, none⟩), .pointer (some ⟨w.heap.size + 1 + 1 + 1, 0, none⟩),
          .pointer (some ⟨w2.heap.size, 0, none⟩), .pointer (some ⟨b5, 0, none⟩), undef, undef, .agg #[.int .i64 K, .slice a n c], .agg #[.int .i64 K, .slice b n d], .bool true, .bool false, undef, .agg #[.int .i64 K, .slice a n c], .agg #[.int .i64 K, .slice b n d], .int .i64 f0, .agg #[.int .i64 K, .slice a n c],
          .func (.func 118) #[] #[.pointer (some ⟨w2.heap.size + 1, 0, none⟩)],
          .agg #[.int .i64 x.1, .int .i64 x.2.1, .int .i64 x.2.2.1, .int .i64 x.2.2.2], undef, undef, undef, undef, undef, undef, undef, undef, undef, undef, undef, undef, undef],
      defers := [] })
    rfl (enters_of Try.func118 (by kernel_rfl) rfl) (fun _ => rfl) (listS K xs) ?hM ?hseq ?hI ?hIx ?hAx ?h0 ?assign ?body ?done ?stop
  case hM =>
    rintro k o hk h
    have := hN1.out
    omega
  case hseq =>
    intro V hV
    have h1 := hN1.out
    have h2 := hV.size
    refine switches_all (w2.heap.size + 1) K n c a xs _ V (S1.bel (hV.mono (by omega))) hm (fun A C hs h => h.spare hs (fun o hm => ?_) (fun b off e hn o hm => ?_)) (fun k o hk hm => ?_)
    · omega
    · have := hra.out b off e hn
      omega
    · omega
  case hI => exact fun pre A C hi hs => ⟨hi.1, hi.2.free hs (by have := hN1.out; omega)⟩
  case hIx =>
    rintro cd _ A C ⟨e, x, e2, hi⟩ hs
    exact ⟨e, x, e2, hi.free hs (by have := hN1.out; omega)⟩
  case hAx =>
    rintro pre x a1 _ A C ⟨hi, b5, ⟨hb5, hx⟩, e⟩ hs
    exact ⟨⟨hi.1, hi.2.free hs (by have := hN1.out; omega)⟩, b5, ⟨hb5, hs.same _ _ hx fun hf => by cases hf.2⟩, e⟩
  case h0 => exact ⟨by simp, hF1.out⟩
  case assign =>
    rintro l1 pre x post V e ⟨hp, hi⟩ hlt
    replace hi := Lib.hid hi
    replace e := Lib.hid e
    replace hp := Lib.hid hp
    unfold encT
    gi_wp2
    exact ⟨(Spare.refl _ _).alloc _, ⟨hp.out, hi.out.free (k := w.heap.size) ((Spare.refl _ _).alloc _) (Nat.le_refl _)⟩, V.heap.size, ⟨by have := hN1.out; omega, World.alloc_heap_new V _⟩, by simp⟩
  case body =>
    rintro l1 pre x post a1 V e hlx hr ⟨⟨hp, hi⟩, b5, ⟨hb5, hx⟩, rfl⟩
    rw [hlist.out] at e
    have hmem : x ∈ swL (cellOf xs) K n := by rw [e]; simp
    have hsw := sw_at hmem
    have hc := swdo_impl K a n c xs x.1 x.2.1 x.2.2.1 x.2.2.2 V hi.b3.b2.p hm
    rw [doOut_yes hI.out (by rw [okB_yes hI.out hsw.1 hsw.2.1 hsw.2.2.1 hsw.2.2.2.1]; exact hsw.2.2.2.2)] at hc
    obtain ⟨R, hR⟩ : ∃ R, flL xs K n x.1 x.2.1 x.2.2.1 x.2.2.2 = R := ⟨_, rfl⟩
    have hIR : Im K n R := hR ▸ fl_im hI.out _ _ _ _
    rw [hR] at hc
    have hc2 : Calls Try.prog 104 #[.agg #[.int .i64 K, .slice a n c], .agg #[.int .i64 x.1, .int .i64 x.2.1, .int .i64 x.2.2.1, .int .i64 x.2.2.2]] V (GivesI V K n R) := hc.mono fun e w' hg => hg.ok hIR.hl
    obtain ⟨f1, hf1⟩ : ∃ f1, farL R ys K n = f1 := ⟨_, rfl⟩
    have htp : Hid (towP xs ys K n x = decide (f1 < f0)) := by rw [← hf1, ← hf.out, ← hR]; rfl
    have hfar := fun (s : Option Addr) (q : Nat) (wx : World) (h1 : Row wx s n R) (h2 : Row wx b n ys) => far_impl (K : Int) K s b n n q d R ys wx h1 h2 hm hm'
    rw [farOut_yes hIR hJ.out, hf1] at hfar
    replace hc2 := Lib.hid hc2
    replace hfar := Lib.hid hfar
    replace hR := Lib.hid hR
    replace hp := Lib.hid hp
    replace e := Lib.hid e
    replace hIR := Lib.hid hIR
    obtain ⟨t0, t1, t2, t3⟩ := swx_cells hx
    have x0 := hi.b3.b2.x0
    have x1 := hi.b3.b2.x1
    have hbv : w2.heap.size < V.heap.size := by have := heap_lt hx; omega
    clear hc hsw hf1
    gi_wp2
    refine (CallsIn.inRound l1 (callsIn_wide.2 hc2.out)).mono ?_
    rintro e' w5 ⟨⟨ag, cg, rfl, ho⟩, hb⟩
    have hF5 := Lib.hid (hi.move hb)
    have hx5 : w5.heap[b5]? = some (swObj x) := (hb.block _ (heap_lt hx)).trans hx
    have hsp : Spare (fun k _ => k = w.heap.size + 2 ∨ k = w.heap.size + 3) V w5 := Spare.below hb (Nat.le_refl _)
    have ho5 := Lib.hid ho.row
    have hz5 := hb.size
    replace hsp := Lib.hid hsp
    clear t0 t1 t2 t3 x0 x1 hb hi hx ho hmem
    gi_wp2
    obtain ⟨wd, hwd⟩ : ∃ wd, w5.alloc (.cells #[.int .i64 K, .slice ag n cg] 30) = wd := ⟨_, rfl⟩
    have hbd : Below w5.heap.size w5 wd := by rw [← hwd]; exact (Below.refl _ _).alloc (Nat.le_refl _) _
    have q0 : wd.cell? ⟨w5.heap.size, 0, none⟩ = some (.int .i64 K) := by rw [← hwd]; simp
    have q1 : wd.cell? ⟨w5.heap.size, 1, none⟩ = some (.slice ag n cg) := by rw [← hwd]; simp
    rw [hwd]
    clear hwd
    have hFd := Lib.hid (hF5.out.move hbd)
    have hxd : wd.heap[b5]? = some (swObj x) := (hbd.block _ (heap_lt hx5)).trans hx5
    have hod := Lib.hid (ho5.out.bel hbd)
    have hspd := Lib.hid (hsp.out.trans (Spare.below (M := fun k _ => k = w.heap.size + 2 ∨ k = w.heap.size + 3) hbd (Nat.le_refl _)))
    have hzd := hbd.size
    clear hF5 hx5 ho5 hsp hbd
    have g1 := fun p : Bw wd => bw_cell q0 p
    have g2 := fun p : Bw wd => bw_cell q1 p
    have g3 := fun p : Bw wd => bw_cell hFd.out.b3.b2.y0 p
    have g4 := fun p : Bw wd => bw_cell hFd.out.b3.b2.y1 p
    have g5 := fun p : Bw wd => bw_cell hFd.out.dd p
    have cc : ∀ p : Bw wd, CallsIn (Fence.wide.inRound l1) 2 Try.prog 114 #[.agg #[.int .i64 K, .slice ag n cg], .agg #[.int .i64 K, .slice b n d]] p.v (fun e w' => e = .returned (.int .i64 f1) ∧ ∃ q : Bw wd, w' = q.v) := fun p =>
      CallsIn.inRound l1 (callsIn_wide.2 (bw_of (hfar.out _ _ _ (hod.out.bel p.h) (hFd.out.b3.b2.q.bel p.h))))
    replace cc := Lib.hid cc
    obtain ⟨q, hq⟩ : ∃ q, decide (f1 < f0) = q := ⟨_, rfl⟩
    rw [hq] at htp
    refine wpIn_region_bw (by kernel_rfl) (by kernel_rfl) (by kernel_rfl) ?_
    repeat (gi_big_quiet_step (with_reducible exact cc.out _))
    refine wpQuietIn_nil ?_
    intro _ hw'
    obtain ⟨pq, rfl⟩ := hw'
    have hFe := Lib.hid (hFd.out.move pq.h)
    have hxe : pq.v.heap[b5]? = some (swObj x) := (pq.h.block _ (heap_lt hxd)).trans hxd
    have hspe := Lib.hid (hspd.out.trans (Spare.below (M := fun k _ => k = w.heap.size + 2 ∨ k = w.heap.size + 3) pq.h (Nat.le_refl _)))
    clear g1 g2 g3 g4 g5 cc hFd hod hspd hxd q0 q1 hq
    generalize pq.v = we at hFe hxe hspe ⊢
    clear pq
    cases q with
    | false =>
      clear hxe
      gi_wp2
      exact ⟨hspe.out, ⟨fun t ht => by rcases List.mem_append.1 ht with h | h; exact hp.out t h; rw [List.mem_singleton] at h; rw [h]; exact htp.out, hFe.out⟩⟩
    | true =>
      obtain ⟨t0, t1, t2, t3⟩ := swx_cells hxe
      have z0 := hFe.out.b3.z0
      have z1 := hFe.out.b3.z1
      have z2 := hFe.out.b3.z2
      have z3 := hFe.out.b3.z3
      have zf := hFe.out.b3.zf
      have k0 := hFe.out.k0
      have kf := hFe.out.kf
      have nb : b5 ≠ w.heap.size + 1 + 1 := by omega
      have nb2 : b5 ≠ w.heap.size + 1 + 1 + 1 := by omega
      gi_wp2
      have h5 := put5 (.int .i64 x.1) (.int .i64 x.2.1) (.int .i64 x.2.2.1) (.int .i64 x.2.2.2) (.bool true) z0 z1 z2 z3 k0 _ rfl
      refine ⟨((((hspe.out.set _ (.inr fun o _ => .inl rfl)).set _ (.inr fun o _ => .inl rfl)).set _ (.inr fun o _ => .inl rfl)).set _ (.inr fun o _ => .inl rfl)).set _ (.inr fun o _ => .inr rfl), rfl, x, tow_here e.out hp.out htp.out, h5.1, h5.2.1, h5.2.2.1, h5.2.2.2.1, h5.2.2.2.2, (belQ4 hFe.out.b3.b2.bel (by omega)).setCell (by simp; omega) _⟩
  case done =>
    rintro D V hD ⟨hno, hi⟩ hdf
    have z0 := hi.b3.z0
    have z1 := hi.b3.z1
    have z2 := hi.b3.z2
    have z3 := hi.b3.z3
    have zf := hi.b3.zf
    have k0 := hi.k0
    have kf := hi.kf
    replace hi := Lib.hid hi
    have hnone : Hid (towL xs ys K n = none) := tow_no fun t ht => hno t (by rw [hlist.out]; exact ht)
    clear hno
    gi_wp2
    have hDz : w.heap.size + 3 < D := by have := hN1.out; omega
    have h5 := put5 (.int .i64 0) (.int .i64 0) (.int .i64 0) (.int .i64 0) (.bool false) z0 z1 z2 z3 k0 _ rfl
    have hdf3 : (((((V.setCell ⟨w.heap.size + 1 + 1, 0, none⟩ (.int .i64 0)).setCell ⟨w.heap.size + 1 + 1, 1, none⟩ (.int .i64 0)).setCell ⟨w.heap.size + 1 + 1, 2, none⟩ (.int .i64 0)).setCell ⟨w.heap.size + 1 + 1, 3, none⟩ (.int .i64 0)).setCell ⟨w.heap.size + 1 + 1 + 1, 0, none⟩ (.bool false)).heap[D]? = some (.deferred (some [])) := by
      rw [Below.heap_setCell _ _ _ _ (by simp; omega), Below.heap_setCell _ _ _ _ (by simp; omega), Below.heap_setCell _ _ _ _ (by simp; omega), Below.heap_setCell _ _ _ _ (by simp; omega), Below.heap_setCell _ _ _ _ (by simp; omega)]; exact hdf
    have hb3 : Below w.heap.size w (((((V.setCell ⟨w.heap.size + 1 + 1, 0, none⟩ (.int .i64 0)).setCell ⟨w.heap.size + 1 + 1, 1, none⟩ (.int .i64 0)).setCell ⟨w.heap.size + 1 + 1, 2, none⟩ (.int .i64 0)).setCell ⟨w.heap.size + 1 + 1, 3, none⟩ (.int .i64 0)).setCell ⟨w.heap.size + 1 + 1 + 1, 0, none⟩ (.bool false)) := (belQ4 hi.out.b3.b2.bel (by omega)).setCell (by simp; omega) _
    generalize ((((V.setCell ⟨w.heap.size + 1 + 1, 0, none⟩ (.int .i64 0)).setCell ⟨w.heap.size + 1 + 1, 1, none⟩ (.int .i64 0)).setCell ⟨w.heap.size + 1 + 1, 2, none⟩ (.int .i64 0)).setCell ⟨w.heap.size + 1 + 1, 3, none⟩ (.int .i64 0)).setCell ⟨w.heap.size + 1 + 1 + 1, 0, none⟩ (.bool false) = U at h5 hdf3 hb3 ⊢
    refine ⟨by simp, .inl ⟨_, _, rfl, run_takeDeferred hdf3, ?_⟩⟩
    have hs : Spare (Free w.heap.size) U (U.putObj D (.deferred none)) := (Spare.refl _ _).put (.deferred none) hdf3 (.inr ⟨by omega, rfl⟩)
    have q0 := hs.fcell h5.1
    have q1 := hs.fcell h5.2.1
    have q2 := hs.fcell h5.2.2.1
    have q3 := hs.fcell h5.2.2.2.1
    have q4 := hs.fcell h5.2.2.2.2
    exact ⟨.tuple #[.agg #[.int .i64 0, .int .i64 0, .int .i64 0, .int .i64 0], .bool false], by simp [results, Try.results103, go_sem, q0, q1, q2, q3, q4], by rw [hnone.out]; rfl, stays_below (β := Unit) (m := w.heap.size) (Nat.le_refl _) (Nat.le_refl _) () _ _ hb3 hs⟩
  case stop =>
    rintro D cd V hD ⟨rfl, x, e, hi⟩ hdf
    replace e := Lib.hid e
    replace hi := Lib.hid hi
    gi_wp2
    refine ⟨by simp, .inl ⟨_, _, rfl, run_takeDeferred hdf, ?_⟩⟩
    have hi2 := hi.out.free (k := w.heap.size) ((Spare.refl _ _).put (.deferred none) hdf (.inr ⟨by have := hN1.out; omega, rfl⟩)) (Nat.le_refl _)
    have z0 := hi2.z0
    have z1 := hi2.z1
    have z2 := hi2.z2
    have z3 := hi2.z3
    have k0 := hi2.k0
    exact ⟨.tuple #[.agg #[.int .i64 x.1, .int .i64 x.2.1, .int .i64 x.2.2.1, .int .i64 x.2.2.2], .bool true], by simp [results, Try.results103, go_sem, z0, z1, z2, z3, k0], by rw [e.out]; rfl, hi2.bel⟩
end Go.Proofs.Ytnfkafaolelkbaa
