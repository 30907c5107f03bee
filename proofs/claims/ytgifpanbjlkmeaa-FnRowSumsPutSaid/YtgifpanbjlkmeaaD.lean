/-
  The contracts of the functions that count the set cells of an image.
-/
import Derived.Test.YtgifpanbjlkmeaaC
namespace Go.Proofs.Ytgifpanbjlkmeaa
open Go.RowKit

/-- How many of a row's first bits are set. -/
def cntI (x : Int) : Nat → Int
  | 0 => 0
  | j + 1 => cntI x j + bitI x j
theorem cnt_bd (x : Int) (j : Nat) : 0 ≤ cntI x j ∧ cntI x j ≤ j := by
  induction j with
  | zero => simp [cntI]
  | succ j ih => have := bit_01 x j; simp only [cntI]; omega

def ones1 (x : Int) : Int := IntKind.u64.wrap (bits BinOp.and IntKind.u64 (x / 2) 6148914691236517205 + bits BinOp.and IntKind.u64 x 6148914691236517205)
def ones2 (x : Int) : Int := IntKind.u64.wrap (bits BinOp.and IntKind.u64 (x / 4) 3689348814741910323 + bits BinOp.and IntKind.u64 x 3689348814741910323)
def ones3 (x : Int) : Int := bits BinOp.and IntKind.u64 (IntKind.u64.wrap (x / 16 + x)) 1085102592571150095
def ones4 (x : Int) : Int := IntKind.u64.wrap (x + x / 256)
def ones5 (x : Int) : Int := IntKind.u64.wrap (x + x / 65536)
def ones6 (x : Int) : Int := IntKind.u64.wrap (x + x / 4294967296)
def ones (x : Int) : Int := bits BinOp.and IntKind.i64 (wrap64 (ones6 (ones5 (ones4 (ones3 (ones2 (ones1 x))))))) 127
theorem ones_nat : ∀ n, n < 64 → ones ((n : Nat) : Int) = cntI n 6 := by decide +kernel
theorem ones_num (x : Int) (h0 : 0 ≤ x) (h1 : x ≤ 63) : ones x = cntI x 6 := by
  obtain ⟨n, rfl⟩ := Int.eq_ofNat_of_zero_le h0
  exact ones_nat n (by omega)
theorem cnt_nat : ∀ k, k < 7 → ∀ n, n < 64 → ((n : Nat) : Int) ≤ pw k - 1 → cntI ((n : Nat) : Int) 6 = cntI ((n : Nat) : Int) k := by decide +kernel
theorem cnt_num (x : Int) (k : Nat) (h0 : 0 ≤ x) (h1 : x ≤ pw k - 1) (h2 : x ≤ 63) (hk : k ≤ 6) : cntI x 6 = cntI x k := by
  obtain ⟨n, rfl⟩ := Int.eq_ofNat_of_zero_le h0
  exact cnt_nat k (by omega) n (by omega) h1

set_option maxHeartbeats 400000 in
theorem ones_any (x : Int) (w : World) (h0 : 0 ≤ x) (h1 : x ≤ 63) :
    Calls Try.prog 56 #[.int .u64 x] w fun e w' => e = .returned (.int .i64 (cntI x 6)) ∧ w = w' := by
  have H := Lib.hid (ones_num x h0 h1)
  go_enter Try.func56, Try.ntmps56
  go_wp2
  go_ret
  refine ⟨?_, rfl⟩
  rw [← H.out]
  rfl

/-- How many of the first rows' cells are set. -/
def manyI (W : Nat) (xs : List Int) : Nat → Int
  | 0 => 0
  | k + 1 => manyI W xs k + cntI (xs.getD k 0) W
def manyOf (W : Int) (xs : List Int) : Int := if validB W xs = true then manyI W.toNat xs xs.length else -1
theorem many_bd (W : Nat) (xs : List Int) (k : Nat) : 0 ≤ manyI W xs k ∧ manyI W xs k ≤ k * W := by
  induction k with
  | zero => simp [manyI]
  | succ k ih =>
    have := cnt_bd (xs.getD k 0) W
    simp only [manyI]; rw [show ((k + 1 : Nat) : Int) * W = k * W + W by rw [Int.natCast_succ, Int.add_mul, Int.one_mul]]; omega
theorem many_36 {W k : Nat} (xs : List Int) (hW : W ≤ 6) (hk : k ≤ 6) : 0 ≤ manyI W xs k ∧ manyI W xs k ≤ 36 := by
  have := many_bd W xs k
  have h : (k : Int) * W ≤ 36 := by
    have : k * W ≤ 6 * 6 := Nat.mul_le_mul hk hW
    have e : ((k * W : Nat) : Int) = (k : Int) * W := by simp
    omega
  omega

set_option maxHeartbeats 400000 in
theorem many_impl (W : Int) (a : Option Addr) (len cap : Nat) (xs : List Int) (w : World) (h : Row w a len xs) (hm : len ≤ 9223372036854775807) :
    Calls Try.prog 23 #[.agg #[.int .i64 W, .slice a len cap]] w fun e w' => e = .returned (.int .i64 (manyOf W xs)) ∧ Below w.heap.size w w' := by
  have hl := h.1
  have H := h.alloc (.cells #[.int .i64 W, .slice a len cap] 25)
  by_cases hv : validB W xs = true
  case neg =>
    rw [show manyOf W xs = -1 from if_neg hv]
    have hv : validB W xs = false := by simpa using hv
    go_enter Try.func23, Try.ntmps23
    go_wp2_with fail
    refine (valid_impl _ _ _ _ xs _ H hm).mono ?_
    rintro e w1 ⟨rfl, hb⟩
    go_wp2_with fail
    go_ret
    exact ⟨rfl, ((Below.refl _ _).alloc (Nat.le_refl _) _).trans (hb.mono (by simp))⟩
  rw [show manyOf W xs = manyI W.toNat xs len by rw [← hl]; exact if_pos hv]
  have hW := validB_W hv
  have hL := validB_len hv
  obtain ⟨W, rfl⟩ := Int.eq_ofNat_of_zero_le (by omega : 0 ≤ W)
  rw [Int.toNat_natCast]
  have hrow : Hid (∀ i, i < len → 0 ≤ xs.getD i 0 ∧ xs.getD i 0 ≤ pw W - 1 ∧ xs.getD i 0 ≤ 63) := fun i hi => validB_row hv (by omega)
  go_enter Try.func23, Try.ntmps23
  go_wp2_with fail
  refine (valid_impl _ _ _ _ xs _ H hm).mono ?_
  rintro e w1 ⟨rfl, hb⟩
  have bb1 : Below w.heap.size w w1 := ((Below.refl _ _).alloc (Nat.le_refl _) _).trans (hb.mono (by simp))
  have hz1 : w.heap.size < w1.heap.size := by have := hb.size; simp at this; omega
  have H1 := Lib.hid (H.bel hb)
  obtain ⟨hc1, hf1⟩ := bcell hb
  clear hb H h
  go_wp2_with fail
  go_loop [3, 12] (fun o i => ∃ k : Nat, k ≤ len ∧ i = .int .i64 k ∧ o = .int .i64 (manyI W xs k)) (fun _ i => len - (intOf i).toNat)
  case atStart => exact ⟨0, Nat.zero_le _, rfl, rfl⟩
  case round =>
    obtain ⟨k, hk, rfl, rfl⟩ := hrel
    have hb := many_36 xs (W := W) (k := k) (by omega) (by omega)
    by_cases hlt : k < len
    · obtain ⟨b, off, rfl, hck⟩ := row_at H1.out hlt
      have hr := hrow.out k hlt
      have hcn := cnt_bd (xs.getD k 0) 6
      have e6 := Lib.hid (cnt_num (xs.getD k 0) W hr.1 hr.2.1 hr.2.2 (by omega))
      generalize hx : xs.getD k 0 = x at hck hr hcn e6
      have hx := Lib.hid hx
      have hw : IntKind.u64.wrap x = x := IntWalk.u64_in x ⟨by omega, by omega⟩
      clear hc1 hf1
      go_wp2_with fail
      refine (ones_any x _ hr.1 hr.2.2).mono ?_
      rintro e w2 ⟨rfl, rfl⟩
      go_wp2_with fail
      exact ⟨⟨k + 1, by omega, by go_num, by simp only [manyI]; rw [hx.out, ← e6.out]⟩, by simp [intOf]; omega⟩
    · have : k = len := by omega
      subst this
      clear hc1 hf1
      go_wp2_with fail
      go_ret
      exact ⟨rfl, bb1⟩

end Go.Proofs.Ytgifpanbjlkmeaa

