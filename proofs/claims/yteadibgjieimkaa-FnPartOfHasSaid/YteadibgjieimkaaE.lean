/-
  Facts of numbers: images turned and mirrored twice, their cells, and how many they are.
-/
import Derived.Test.YteadibgjieimkaaM
namespace Go.Proofs.Yteadibgjieimkaa
set_option maxRecDepth 100000

def sumI (f : Nat → Int) : Nat → Int
  | 0 => 0
  | k + 1 => sumI f k + f k
theorem sum_ext {f g : Nat → Int} {k : Nat} (h : ∀ i, i < k → f i = g i) : sumI f k = sumI g k := by
  induction k with
  | zero => rfl
  | succ k ih => simp only [sumI]; rw [ih fun i hi => h i (by omega), h k (by omega)]
theorem sum_zero (k : Nat) : sumI (fun _ => 0) k = 0 := by
  induction k with
  | zero => rfl
  | succ k ih => simp only [sumI]; rw [ih]; rfl
theorem sum_add (f g : Nat → Int) (k : Nat) : sumI (fun i => f i + g i) k = sumI f k + sumI g k := by
  induction k with
  | zero => rfl
  | succ k ih => simp only [sumI]; rw [ih]; omega
theorem sum_swap (F : Nat → Nat → Int) (k m : Nat) : sumI (fun i => sumI (F i) m) k = sumI (fun j => sumI (fun i => F i j) k) m := by
  induction k with
  | zero => simp only [sumI]; exact (sum_zero m).symm
  | succ k ih => simp only [sumI]; rw [ih, sum_add]
theorem cnt_sum (x : Int) (k : Nat) : cntI x k = sumI (bitI x) k := by
  induction k with
  | zero => rfl
  | succ k ih => simp only [sumI, cntI]; rw [ih]
theorem many_sum (W : Nat) (xs : List Int) (k : Nat) : manyI W xs k = sumI (fun i => sumI (bitI (xs.getD i 0)) W) k := by
  induction k with
  | zero => rfl
  | succ k ih => simp only [sumI, manyI]; rw [ih, cnt_sum]

theorem badd_nat : ∀ k, k < 6 → ∀ c, c < 64 → ((c : Nat) : Int) ≤ pw k - 1 → ∀ i, i < 7 → bitI ((c : Nat) : Int) i = (if i < k then bitI ((c : Nat) : Int) i else 0) ∧ bitI (((c : Nat) : Int) + pw k) i = (if i = k then 1 else bitI ((c : Nat) : Int) i) := by decide +kernel
theorem pw_63 {k : Nat} (hk : k ≤ 6) : pw k ≤ 64 := by
  have := pw_le k 6 hk
  have e : pw 6 = 64 := by decide
  omega
theorem col_bit (xs : List Int) (j k i : Nat) (hk : k ≤ 6) (hi : i ≤ 6) : bitI (colI xs j k) i = if i < k then bitI (xs.getD i 0) j else 0 := by
  induction k with
  | zero => simp [colI, bitI]
  | succ k ih =>
    have ih := ih (by omega)
    have hc := col_bd xs j k
    have hb := bit_01 (xs.getD k 0) j
    have hp := pw_63 (show k ≤ 6 by omega)
    simp only [colI]
    generalize colI xs j k = c at *
    obtain ⟨c, rfl⟩ := Int.eq_ofNat_of_zero_le hc.1
    have hn := badd_nat k (by omega) c (by omega) hc.2 i (by omega)
    rcases (show bitI (xs.getD k 0) j = 0 ∨ bitI (xs.getD k 0) j = 1 by omega) with e | e
    · rw [e, Int.zero_mul, Int.add_zero, ih]
      by_cases h1 : i < k
      · rw [if_pos h1, if_pos (by omega)]
      · rw [if_neg h1]
        by_cases h2 : i = k
        · subst h2; rw [if_pos (by omega), e]
        · rw [if_neg (by omega)]
    · rw [e, Int.one_mul, hn.2, ih]
      by_cases h2 : i = k
      · subst h2; rw [if_pos rfl, if_pos (by omega), e]
      · rw [if_neg h2]
        by_cases h1 : i < k
        · rw [if_pos h1, if_pos (by omega)]
        · rw [if_neg h1, if_neg (by omega)]

def binI (x : Int) : Nat → Int
  | 0 => 0
  | k + 1 => binI x k + bitI x k * pw k
theorem bin_nat : ∀ k, k < 7 → ∀ n, n < 64 → ((n : Nat) : Int) ≤ pw k - 1 → binI ((n : Nat) : Int) k = n := by decide +kernel
theorem bin_num {x : Int} {k : Nat} (hk : k ≤ 6) (h0 : 0 ≤ x) (h1 : x ≤ pw k - 1) : binI x k = x := by
  have := pw_63 hk
  obtain ⟨n, rfl⟩ := Int.eq_ofNat_of_zero_le h0
  exact bin_nat k (by omega) n (by omega) h1
theorem bin_ext {x y : Int} {k : Nat} (h : ∀ i, i < k → bitI x i = bitI y i) : binI x k = binI y k := by
  induction k with
  | zero => rfl
  | succ k ih => simp only [binI]; rw [ih fun i hi => h i (by omega), h k (by omega)]
theorem bits_ext {x y : Int} {k : Nat} (hk : k ≤ 6) (hx : 0 ≤ x ∧ x ≤ pw k - 1) (hy : 0 ≤ y ∧ y ≤ pw k - 1) (h : ∀ i, i < k → bitI x i = bitI y i) : x = y := by
  rw [← bin_num hk hx.1 hx.2, ← bin_num hk hy.1 hy.2]; exact bin_ext h

/-- A valid image of natural sides. -/
structure Im (W len : Nat) (xs : List Int) : Prop where
  w1 : 1 ≤ W
  w6 : W ≤ 6
  l1 : 1 ≤ len
  l6 : len ≤ 6
  hl : xs.length = len
  row : ∀ i, i < len → 0 ≤ xs.getD i 0 ∧ xs.getD i 0 ≤ pw W - 1
theorem Im.valid {W len : Nat} {xs : List Int} (h : Im W len xs) : validB W xs = true := by
  refine validB_yes (inB_yes (by have := h.w1; omega) (by have := h.w6; omega)) (inB_yes (by have := h.hl; have := h.l1; omega) (by have := h.hl; have := h.l6; omega)) fun i hi => ?_
  have := h.row i (by have := h.hl; omega)
  exact inB_yes this.1 (by simpa using this.2)
theorem Im.of {W len : Nat} {xs : List Int} (hv : validB W xs = true) (hl : xs.length = len) : Im W len xs := by
  have hW := validB_W hv
  have hL := validB_len hv
  exact ⟨by omega, by omega, by omega, by omega, hl, fun i hi => by have := validB_row hv (i := i) (by omega); rw [Int.toNat_natCast] at this; exact ⟨this.1, this.2.1⟩⟩
theorem Im.ext {W len : Nat} {xs ys : List Int} (h : Im W len xs) (k : Im W len ys) (hb : ∀ i j, i < len → j < W → bitI (xs.getD i 0) j = bitI (ys.getD i 0) j) : xs = ys := by
  apply List.ext_getElem (by rw [h.hl, k.hl])
  intro i hi hj
  have e := bits_ext h.w6 (h.row i (by rw [← h.hl]; exact hi)) (k.row i (by rw [← h.hl]; exact hi)) (fun j hj => hb i j (by rw [← h.hl]; exact hi) hj)
  rw [getD_elem hi, getD_elem hj] at e
  exact e
theorem Im.has {W len : Nat} {xs : List Int} (h : Im W len xs) {i j : Nat} (hi : i < len) (hj : j < W) : hasB W xs i j = (bitI (xs.getD i 0) j == 1) := by
  rw [hasB_yes h.valid (cellB_iff.2 ⟨by omega, by have := h.hl; omega, by omega, by omega⟩), Int.toNat_natCast, Int.toNat_natCast]
theorem Im.turn {W len : Nat} {xs : List Int} (h : Im W len xs) : Im len W (turnL xs W len) :=
  ⟨h.l1, h.l6, h.w1, h.w6, turn_len _ _ _, fun i hi => by rw [show (turnL xs W len).getD i 0 = colI xs i len from rows_get (fun j => colI xs j len) hi]; exact col_bd xs i len⟩
theorem Im.turn_bit {W len : Nat} {xs : List Int} (h : Im W len xs) {i j : Nat} (hi : i < len) (hj : j < W) : bitI ((turnL xs W len).getD j 0) i = bitI (xs.getD i 0) j := by
  rw [show (turnL xs W len).getD j 0 = colI xs j len from rows_get (fun j => colI xs j len) hj, col_bit xs j len i h.l6 (by have := h.l6; omega), if_pos hi]
theorem Im.turn_turn {W len : Nat} {xs : List Int} (h : Im W len xs) : turnL (turnL xs W len) len W = xs :=
  h.turn.turn.ext h fun i j hi hj => by rw [h.turn.turn_bit hj hi, h.turn_bit hi hj]
theorem Im.turn_has {W len : Nat} {xs : List Int} (h : Im W len xs) {i j : Nat} (hi : i < len) (hj : j < W) : hasB len (turnL xs W len) j i = hasB W xs i j := by
  rw [h.has hi hj, h.turn.has hj hi, h.turn_bit hi hj]
theorem Im.turn_many {W len : Nat} {xs : List Int} (h : Im W len xs) : manyI len (turnL xs W len) W = manyI W xs len := by
  rw [many_sum, many_sum, sum_swap]
  refine sum_ext fun i hi => sum_ext fun j hj => h.turn_bit hi hj

theorem mirb_nat : ∀ k, k < 7 → ∀ n, n < 64 → 0 ≤ mirI k ((n : Nat) : Int) k ∧ mirI k ((n : Nat) : Int) k ≤ pw k - 1 ∧ cntI (mirI k ((n : Nat) : Int) k) k = cntI ((n : Nat) : Int) k ∧ ∀ j, j < k → bitI (mirI k ((n : Nat) : Int) k) (k - 1 - j) = bitI ((n : Nat) : Int) j := by decide +kernel
def mirL (xs : List Int) (W n : Nat) : List Int := rowsL (fun i => mirI W (xs.getD i 0) W) n
theorem Im.nat {W len : Nat} {xs : List Int} (h : Im W len xs) {i : Nat} (hi : i < len) : ∃ n : Nat, xs.getD i 0 = n ∧ n < 64 := by
  have hr := h.row i hi
  have hp := pw_63 h.w6
  obtain ⟨n, e⟩ := Int.eq_ofNat_of_zero_le hr.1
  exact ⟨n, e, by omega⟩
theorem Im.mir {W len : Nat} {xs : List Int} (h : Im W len xs) : Im W len (mirL xs W len) :=
  ⟨h.w1, h.w6, h.l1, h.l6, rows_len _ _, fun i hi => by
    rw [show (mirL xs W len).getD i 0 = mirI W (xs.getD i 0) W from rows_get (fun i => mirI W (xs.getD i 0) W) hi]
    obtain ⟨n, e, hn⟩ := h.nat hi
    rw [e]
    have := mirb_nat W (by have := h.w6; omega) n hn
    exact ⟨this.1, this.2.1⟩⟩
theorem Im.mir_bit {W len : Nat} {xs : List Int} (h : Im W len xs) {i j : Nat} (hi : i < len) (hj : j < W) : bitI ((mirL xs W len).getD i 0) (W - 1 - j) = bitI (xs.getD i 0) j := by
  rw [show (mirL xs W len).getD i 0 = mirI W (xs.getD i 0) W from rows_get (fun i => mirI W (xs.getD i 0) W) hi]
  obtain ⟨n, e, hn⟩ := h.nat hi
  rw [e]
  exact (mirb_nat W (by have := h.w6; omega) n hn).2.2.2 j hj
theorem Im.mir_bit' {W len : Nat} {xs : List Int} (h : Im W len xs) {i j : Nat} (hi : i < len) (hj : j < W) : bitI ((mirL xs W len).getD i 0) j = bitI (xs.getD i 0) (W - 1 - j) := by
  have := h.mir_bit hi (j := W - 1 - j) (by omega)
  rw [show W - 1 - (W - 1 - j) = j by omega] at this
  exact this
theorem Im.mir_mir {W len : Nat} {xs : List Int} (h : Im W len xs) : mirL (mirL xs W len) W len = xs :=
  h.mir.mir.ext h fun i j hi hj => by rw [h.mir.mir_bit' hi hj, h.mir_bit hi hj]
theorem Im.mir_has {W len : Nat} {xs : List Int} (h : Im W len xs) {i j : Nat} (hi : i < len) (hj : j < W) : hasB W (mirL xs W len) i (W - 1 - j : Nat) = hasB W xs i j := by
  rw [h.has hi hj, h.mir.has hi (by omega), h.mir_bit hi hj]
theorem Im.mir_many {W len : Nat} {xs : List Int} (h : Im W len xs) : manyI W (mirL xs W len) len = manyI W xs len := by
  rw [many_sum, many_sum]
  refine sum_ext fun i hi => ?_
  rw [← cnt_sum, ← cnt_sum, show (mirL xs W len).getD i 0 = mirI W (xs.getD i 0) W from rows_get (fun i => mirI W (xs.getD i 0) W) hi]
  obtain ⟨n, e, hn⟩ := h.nat hi
  rw [e]
  exact (mirb_nat W (by have := h.w6; omega) n hn).2.2.1

/-- A quarter turn. -/
def rotL (xs : List Int) (W len : Nat) : List Int := mirL (turnL xs W len) len W
theorem Im.rot {W len : Nat} {xs : List Int} (h : Im W len xs) : Im len W (rotL xs W len) := h.turn.mir
theorem Im.rot_many {W len : Nat} {xs : List Int} (h : Im W len xs) : manyI len (rotL xs W len) W = manyI W xs len := h.turn.mir_many.trans h.turn_many
theorem Im.rot_bit {W len : Nat} {xs : List Int} (h : Im W len xs) {i j : Nat} (hi : i < W) (hj : j < len) : bitI ((rotL xs W len).getD i 0) j = bitI (xs.getD (len - 1 - j) 0) i := by
  rw [show rotL xs W len = mirL (turnL xs W len) len W from rfl, h.turn.mir_bit' hi hj, h.turn_bit (by omega) hi]
theorem Im.rot4 {W len : Nat} {xs : List Int} (h : Im W len xs) : rotL (rotL (rotL (rotL xs W len) len W) W len) len W = xs :=
  h.rot.rot.rot.rot.ext h fun i j hi hj => by
    rw [h.rot.rot.rot.rot_bit hi hj, h.rot.rot.rot_bit (by omega) hi, h.rot.rot_bit (by omega) (by omega), h.rot_bit (by omega) (by omega)]
    rw [show len - 1 - (len - 1 - i) = i by omega, show W - 1 - (W - 1 - j) = j by omega]
theorem Im.many {W len : Nat} {xs : List Int} (h : Im W len xs) : manyOf W xs = manyI W xs len := by
  unfold manyOf; rw [if_pos h.valid, Int.toNat_natCast, h.hl]
/-- Some quarter turns. -/
def rotK (W n : Nat) (xs : List Int) : Nat → Nat × Nat × List Int
  | 0 => (W, n, xs)
  | k + 1 => ((rotK W n xs k).2.1, (rotK W n xs k).1, rotL (rotK W n xs k).2.2 (rotK W n xs k).1 (rotK W n xs k).2.1)
theorem Im.rots {W n : Nat} {xs : List Int} (h : Im W n xs) : ∀ k, Im (rotK W n xs k).1 (rotK W n xs k).2.1 (rotK W n xs k).2.2
  | 0 => h
  | k + 1 => (Im.rots h k).rot
theorem Im.rots_many {W n : Nat} {xs : List Int} (h : Im W n xs) : ∀ k, manyOf ((rotK W n xs k).1 : Nat) (rotK W n xs k).2.2 = manyI W xs n
  | 0 => h.many
  | k + 1 => ((h.rots (k + 1)).many.trans (h.rots k).rot_many).trans ((h.rots k).many.symm.trans (Im.rots_many h k))
theorem Im.rots4 {W n : Nat} {xs : List Int} (h : Im W n xs) : rotK W n xs 4 = (W, n, xs) := by
  show (W, n, rotL (rotL (rotL (rotL xs W n) n W) W n) n W) = _
  rw [h.rot4]
end Go.Proofs.Yteadibgjieimkaa

