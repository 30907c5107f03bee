/-
  The contracts of the functions that write an image as a text.
-/
import Derived.Test.YtiegonpgfbmidaaSh
import Derived.Test.YtiegonpgfbmidaaD
import Derived.Test.YtiegonpgfbmidaaK
namespace Go.Proofs.Ytiegonpgfbmidaa
open Go.RowKit

def markT (b : Int) : UInt8 := if b = 1 then 35 else 46
/-- The marks of the first cells of a row. -/
def marksT (x : Int) : Nat → List UInt8
  | 0 => []
  | j + 1 => marksT x j ++ [markT (bitI x j)]
/-- The lines of the first rows. -/
def textT (W : Nat) (xs : List Int) : Nat → List UInt8
  | 0 => []
  | k + 1 => textT W xs k ++ marksT (xs.getD k 0) W ++ [10]
def textOf (W : Int) (xs : List Int) : List UInt8 := if validB W xs = true then textT W.toNat xs xs.length else []
theorem marks_length (x : Int) (j : Nat) : (marksT x j).length = j := by
  induction j with
  | zero => rfl
  | succ j ih => simp [marksT, ih]
theorem text_length (W : Nat) (xs : List Int) (k : Nat) : (textT W xs k).length = k * (W + 1) := by
  induction k with
  | zero => simp [textT]
  | succ k ih => simp [textT, ih, marks_length, Nat.add_mul]
theorem cells_snoc (l : List UInt8) (c : UInt8) : Lib.byteCells l ++ [.int .u8 c.toNat] = Lib.byteCells (l ++ [c]) := by simp [Lib.byteCells]

set_option maxHeartbeats 800000 in
theorem text_impl (W : Int) (a : Option Addr) (len cap : Nat) (xs : List Int) (w : World) (h : Row w a len xs) (hm : len ≤ 9223372036854775807) :
    Calls Try.prog 34 #[.agg #[.int .i64 W, .slice a len cap]] w fun e w' => e = .returned (.string ⟨(textOf W xs).toArray⟩) ∧ Below w.heap.size w w' := by
  have hl := h.1
  have H := h.alloc (.cells #[.int .i64 W, .slice a len cap] 25)
  by_cases hv : validB W xs = true
  case neg =>
    rw [show textOf W xs = [] from if_neg hv]
    have hv : validB W xs = false := by simpa using hv
    go_enter Try.func34, Try.ntmps34
    go_wp2_with fail
    refine (valid_impl _ _ _ _ xs _ H hm).mono ?_
    rintro e w1 ⟨rfl, hb⟩
    go_wp2_with fail
    go_ret
    exact ⟨rfl, ((Below.refl _ _).alloc (Nat.le_refl _) _).trans (hb.mono (by simp))⟩
  rw [show textOf W xs = textT W.toNat xs len by rw [← hl]; exact if_pos hv]
  have hW := validB_W hv
  have hL := validB_len hv
  obtain ⟨W, rfl⟩ := Int.eq_ofNat_of_zero_le (by omega : 0 ≤ W)
  rw [Int.toNat_natCast]
  have hrow : Hid (∀ i, i < len → 0 ≤ xs.getD i 0 ∧ xs.getD i 0 ≤ pw W - 1 ∧ xs.getD i 0 ≤ 63) := fun i hi => validB_row hv (by omega)
  go_enter Try.func34, Try.ntmps34
  go_wp2_with fail
  refine (valid_impl _ _ _ _ xs _ H hm).mono ?_
  rintro e w1 ⟨rfl, hb⟩
  have bb1 : Below w.heap.size w w1 := ((Below.refl _ _).alloc (Nat.le_refl _) _).trans (hb.mono (by simp))
  have hz1 : w.heap.size < w1.heap.size := by have := hb.size; simp at this; omega
  have H1 := Lib.hid (H.bel hb)
  have x0 : w1.cell? ⟨w.heap.size, 0, none⟩ = some (.int .i64 W) := by rw [(bcell hb).1 _ _ (by simp)]; simp
  have x1 : w1.cell? ⟨w.heap.size, 1, none⟩ = some (.slice a len cap) := by rw [(bcell hb).1 _ _ (by simp)]; simp
  clear hb H h
  go_wp2_with fail
  go_loopw [13] (fun i wr => ∃ k : Nat, k ≤ len ∧ i = .int .i64 k ∧ Lib.IsBuilder 65 5 w1.heap.size w1.heap.size (Lib.byteCells (textT W xs k)) wr ∧ Below w1.heap.size w1 wr) (fun i _ => len - (intOf i).toNat)
  case atStart => exact ⟨0, Nat.zero_le _, rfl, Lib.fresh_isBuilder _ _ _, (Below.refl _ _).alloc (Nat.le_refl _) _⟩
  case round =>
    obtain ⟨k, hk, rfl, hB, hbel⟩ := hrel
    have hsz := hbel.size
    have tl := text_length W xs k
    have y0 := kept hbel (block_lt x0) x0
    by_cases hlt : k < len
    · obtain ⟨b, off, rfl, hck⟩ := row_at (H1.out.bel hbel) hlt
      have hr := hrow.out k hlt
      have hkW : k * (W + 1) ≤ 6 * 7 := Nat.mul_le_mul (by omega) (by omega)
      generalize hx : xs.getD k 0 = x at hck hr
      have hx := Lib.hid hx
      have hB := Lib.hid hB
      go_wp2_with fail
      go_loopw [19] (fun j ws => ∃ m : Nat, m ≤ W ∧ j = .int .i64 m ∧ Lib.IsBuilder 65 5 w1.heap.size w1.heap.size (Lib.byteCells (textT W xs k ++ marksT x m)) ws ∧ Below w1.heap.size w1 ws) (fun j _ => W - (intOf j).toNat)
      case atStart => exact ⟨0, Nat.zero_le _, rfl, by simpa [marksT] using hB.out, hbel⟩
      case round =>
        obtain ⟨m, hm', rfl, hB2, hbel2⟩ := hrel
        clear hB hbel y0 hck
        have hsz2 := hbel2.size
        have ml := marks_length x m
        have hlen : (Lib.byteCells (textT W xs k ++ marksT x m)).length + 1 ≤ 140737488355328 := by simp [Lib.byteCells, tl, ml]; omega
        by_cases hlm : m < W
        · have hs := shr_bit (x := x) (j := m) hr.1 hr.2.2
          have hbi := bit_01 x m
          have hB2 := Lib.hid hB2
          by_cases hbit : bitI x m = 1
          · rw [hbit] at hs
            go_wp2_with fail
            refine (write_byte w1.heap.size w1.heap.size _ 35 _ hB2.out hlen hsz2).mono ?_
            rintro e w5 ⟨rfl, hB3, hb5⟩
            have hB3 := Lib.hid hB3
            go_wp2_with fail
            refine ⟨⟨m + 1, by omega, by go_num, .inr ?_, hbel2.trans hb5⟩, by simp [intOf]; omega⟩
            have := hB3.out
            rw [show (Value.int IntKind.u8 35) = .int .u8 (markT (bitI x m)).toNat by rw [hbit]; rfl, cells_snoc, List.append_assoc] at this
            exact this
          · have hbit : bitI x m = 0 := by omega
            rw [hbit] at hs
            go_wp2_with fail
            refine (write_byte w1.heap.size w1.heap.size _ 46 _ hB2.out hlen hsz2).mono ?_
            rintro e w5 ⟨rfl, hB3, hb5⟩
            have hB3 := Lib.hid hB3
            go_wp2_with fail
            refine ⟨⟨m + 1, by omega, by go_num, .inr ?_, hbel2.trans hb5⟩, by simp [intOf]; omega⟩
            have := hB3.out
            rw [show (Value.int IntKind.u8 46) = .int .u8 (markT (bitI x m)).toNat by rw [hbit]; rfl, cells_snoc, List.append_assoc] at this
            exact this
        · have : m = W := by omega
          subst this
          have hB2 := Lib.hid hB2
          go_wp2_with fail
          refine (write_byte w1.heap.size w1.heap.size _ 10 _ hB2.out hlen hsz2).mono ?_
          rintro e w5 ⟨rfl, hB3, hb5⟩
          have hB3 := Lib.hid hB3
          go_wp2_with fail
          refine ⟨⟨k + 1, by omega, by go_num, .inr ?_, hbel2.trans hb5⟩, by simp [intOf]; omega⟩
          have := hB3.out
          rw [show (Value.int IntKind.u8 10) = .int .u8 (10 : UInt8).toNat by rfl, cells_snoc] at this
          simp only [textT]
          rw [hx.out]
          exact this
    · have : k = len := by omega
      subst this
      have hB := Lib.hid hB
      go_wp2_with fail
      refine (string_of w1.heap.size w1.heap.size _ _ hB.out hsz).mono ?_
      rintro e w5 ⟨rfl, hb5⟩
      go_wp2_with fail
      go_ret
      exact ⟨rfl, bb1.trans ((hbel.trans hb5).mono (by omega))⟩
end Go.Proofs.Ytiegonpgfbmidaa

