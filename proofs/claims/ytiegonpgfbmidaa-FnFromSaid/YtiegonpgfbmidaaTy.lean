/-
  The contract of the model's function that writes an image as a text.
-/
import Derived.Test.YtiegonpgfbmidaaTx
namespace Go.Proofs.Ytiegonpgfbmidaa
open Go.RowKit

theorem str_app (l m : List UInt8) : (ByteArray.mk l.toArray) ++ (ByteArray.mk m.toArray) = ByteArray.mk (l ++ m).toArray := by
  apply ByteArray.ext; rw [ByteArray.data_append]; simp
theorem dot_ext : (ByteArray.mk #[46, 35]).extract 0 1 = ByteArray.mk [46].toArray := by decide +kernel
theorem num_ext : (ByteArray.mk #[46, 35]).extract 1 2 = ByteArray.mk [35].toArray := by decide +kernel
set_option maxHeartbeats 800000 in
theorem text_spec (W : Int) (a : Option Addr) (len cap : Nat) (xs : List Int) (w : World) (h : Row w a len xs) (hm : len ≤ 9223372036854775807) :
    Calls Try.prog 51 #[.agg #[.int .i64 W, .slice a len cap]] w fun e w' => e = .returned (.string ⟨(textOf W xs).toArray⟩) ∧ Below w.heap.size w w' := by
  have hl := h.1
  have H := h.alloc (.cells #[.int .i64 W, .slice a len cap] 25)
  by_cases hv : validB W xs = true
  case neg =>
    rw [show textOf W xs = [] from if_neg hv]
    have hv : validB W xs = false := by simpa using hv
    by_cases h0 : len = 0
    · subst h0
      clear hv H hl h
      go_enter Try.func51, Try.ntmps51
      go_wp2_with fail
      refine wp_loop_rounds 1 ?_
      rw [rounds_succ]
      go_wp2_with fail
      go_ret
      exact ⟨rfl, (Below.refl _ _).alloc (Nat.le_refl _) _⟩
    · have h0 : 0 < len := by omega
      clear hl h
      go_enter Try.func51, Try.ntmps51
      go_wp2_with fail
      refine wp_loop_rounds 1 ?_
      rw [rounds_succ]
      go_wp2_with fail
      refine (valid_spec _ _ _ _ xs _ H hm).mono ?_
      rintro e w1 ⟨rfl, hb⟩
      go_wp2_with fail
      go_ret
      exact ⟨rfl, ((Below.refl _ _).alloc (Nat.le_refl _) _).trans (hb.mono (by simp))⟩
  rw [show textOf W xs = textT W.toNat xs len by rw [← hl]; exact if_pos hv]
  have hW := validB_W hv
  have hL := validB_len hv
  obtain ⟨W, rfl⟩ := Int.eq_ofNat_of_zero_le (by omega : 0 ≤ W)
  rw [Int.toNat_natCast]
  have hrow : Hid (∀ i, i < len → 0 ≤ xs.getD i 0 ∧ xs.getD i 0 ≤ pw W - 1 ∧ xs.getD i 0 ≤ 63) := fun i hi => validB_row hv (by omega)
  go_enter Try.func51, Try.ntmps51
  go_wp2_with fail
  go_loopw [3, 4] (fun o i wr => ∃ k : Nat, k ≤ len ∧ i = .int .i64 k ∧ o = .string ⟨(textT W xs k).toArray⟩ ∧ Row wr a len xs ∧ wr.cell? ⟨w.heap.size, 0, none⟩ = some (.int .i64 W) ∧ wr.cell? ⟨w.heap.size, 1, none⟩ = some (.slice a len cap) ∧ Below w.heap.size w wr) (fun _ i _ => len - (intOf i).toNat)
  case atStart => exact ⟨0, Nat.zero_le _, rfl, rfl, H, by simp, by simp, (Below.refl _ _).alloc (Nat.le_refl _) _⟩
  case round =>
    obtain ⟨k, hk, rfl, rfl, hR, x0, x1, bb⟩ := hrel
    by_cases hlt : k < len
    · have hz := block_lt x0
      have hR := Lib.hid hR
      go_wp2_with fail
      refine (valid_spec _ _ _ _ xs _ hR.out hm).mono ?_
      rintro e w1 ⟨rfl, hb⟩
      have y0 := kept hb hz x0
      have y1 := kept hb hz x1
      have bb1 := bb.trans (hb.mono bb.size)
      obtain ⟨b, off, rfl, hck⟩ := row_at (hR.out.bel hb) hlt
      have hR1 := Lib.hid (hR.out.bel hb)
      clear hR x0 x1 hb
      have hr := hrow.out k hlt
      have tl := text_length W xs k
      have hkW : k * (W + 1) ≤ 6 * 7 := Nat.mul_le_mul (by omega) (by omega)
      generalize hx : xs.getD k 0 = x at hck hr
      have hx := Lib.hid hx
      go_wp2_with fail
      go_loopw [3, 5] (fun o j ws => ∃ m : Nat, m ≤ W ∧ j = .int .i64 m ∧ o = .string ⟨(textT W xs k ++ marksT x m).toArray⟩ ∧ Below w1.heap.size w1 ws) (fun _ j _ => W - (intOf j).toNat)
      case atStart => exact ⟨0, Nat.zero_le _, rfl, by simp [marksT], Below.refl _ _⟩
      case round =>
        obtain ⟨m, hm', rfl, rfl, hbel⟩ := hrel
        have z0 := kept hbel (block_lt y0) y0
        have z1 := kept hbel (block_lt y1) y1
        have z2 := kept hbel (block_lt hck) hck
        have ml := marks_length x m
        by_cases hlm : m < W
        · have hbi := bit_01 x m
          have hc := Lib.hid (fun ws => bit_any x m ws hr.1 (by omega) (by omega))
          by_cases hbit : bitI x m = 1
          · rw [hbit] at hc
            have hbit' := Lib.hid hbit
            clear hbi hbit
            go_wp2_with fail
            go_quiet (((go_at_call 45; exact qd (hc.out _))))
            go_wp2_with fail
            refine ⟨⟨m + 1, by omega, by go_num, ?_, below_drewN hbel _⟩, by simp [intOf]; omega⟩
            rw [num_ext, str_app]; simp only [marksT]; rw [hbit'.out, List.append_assoc]; rfl
          · have h0 : bitI x m = 0 := by omega
            rw [h0] at hc
            have hbit' := Lib.hid h0
            clear hbi hbit h0
            go_wp2_with fail
            go_quiet (((go_at_call 45; exact qd (hc.out _))))
            go_wp2_with fail
            refine ⟨⟨m + 1, by omega, by go_num, ?_, below_drewN hbel _⟩, by simp [intOf]; omega⟩
            rw [dot_ext, str_app]; simp only [marksT]; rw [hbit'.out, List.append_assoc]; rfl
        · have : m = W := by omega
          subst this
          have hR2 := Lib.hid (hR1.out.bel hbel)
          have bb2 := Lib.hid (bb1.trans (hbel.mono bb1.size))
          go_wp2_with fail
          refine ⟨⟨k + 1, by omega, by go_num, ?_, hR2.out, z0, z1, bb2.out⟩, by simp [intOf]; omega⟩
          rw [show ByteArray.mk #[10] = ByteArray.mk [10].toArray from rfl, str_app]; simp only [textT]; rw [hx.out]
    · have : k = len := by omega
      subst this
      go_wp2_with fail
      go_ret
      exact ⟨rfl, bb⟩
end Go.Proofs.Ytiegonpgfbmidaa

