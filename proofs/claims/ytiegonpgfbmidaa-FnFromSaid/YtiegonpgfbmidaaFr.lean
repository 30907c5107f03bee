/-
  The contracts of the program's functions that read an image from a text.
-/
import Derived.Test.YtiegonpgfbmidaaTm
import Derived.Test.YtiegonpgfbmidaaSh
import Derived.Shelf.Small.Strs
namespace Go.Proofs.Ytiegonpgfbmidaa
open Go.RowKit

def renIdx : Go.Shelf.Ren := ⟨fun | 137 => 54 | 217 => 61 | 266 => 65 | n => n, fun | 3 => 3 | 5 => 5 | 9 => 9 | n => n, fun n => n⟩
theorem laysIdx : Go.Proofs.Lays.n137 Try.prog renIdx := {
  mixed := by kernel_rfl
  f137 := Try.func54.trans (congrArg some (by kernel_rfl))
  f217 := Try.func61.trans (congrArg some (by kernel_rfl))
  f266 := Try.func65.trans (congrArg some (by kernel_rfl))
  t3 := Try.underlying3
  a3 := Try.isAgg3
  z3 := Try.sizeOf3
  v3 := Try.zeroValue3
  t5 := Try.underlying5
  a5 := Try.isAgg5
  z5 := Try.sizeOf5
  v5 := Try.zeroValue5
  t9 := Try.underlying9
  a9 := Try.isAgg9
  z9 := Try.sizeOf9
  v9 := Try.zeroValue9 }
theorem index_any (s : ByteArray) (c : Int) (w : World) :
    Calls Try.prog 54 #[.string s, .int .u8 c] w fun e w' => e = .returned (.int .i64 (Lib.indexByte s.data.toList c.toNat.toUInt8)) ∧ w = w' := (Any.strings_IndexByte laysIdx s c w).mono fun _ _ ⟨he, hw⟩ => ⟨he, hw.symm⟩

def okL (l : List UInt8) : Nat → Bool
  | 0 => true
  | k + 1 => okL l k && (l.getD k 0 == 35 || l.getD k 0 == 46)
theorem okL_iff {l : List UInt8} {k : Nat} : okL l k = true ↔ ∀ j, j < k → l.getD j 0 = 35 ∨ l.getD j 0 = 46 := by
  induction k with
  | zero => simp [okL]
  | succ k ih =>
    simp only [okL, Bool.and_eq_true, Bool.or_eq_true, beq_iff_eq, ih]
    constructor
    · rintro ⟨h1, h2⟩ j hj
      by_cases e : j = k
      · subst e; exact h2
      · exact h1 j (by omega)
    · intro h; exact ⟨fun j hj => h j (by omega), h k (by omega)⟩
theorem okL_no {l : List UInt8} {k n : Nat} (hk : k < n) (h1 : l.getD k 0 ≠ 35) (h2 : l.getD k 0 ≠ 46) : okL l n = false := by
  rw [Bool.eq_false_iff]; intro h
  rcases okL_iff.1 h k hk with e | e
  · exact h1 e
  · exact h2 e
theorem byte_get {s : ByteArray} {k : Nat} (h : k < s.size) : s.data.toList.getD k 0 = s[k] := by
  rw [List.getD_eq_getElem?_getD, List.getElem?_eq_getElem (by simpa using h)]; rfl
theorem orsh_nat : ∀ j, j < 6 → ∀ n, n < 64 → ((n : Nat) : Int) ≤ pw j - 1 → bits BinOp.or IntKind.i64 ((n : Nat) : Int) (wrap64 (2 ^ j)) = (n : Int) + pw j := by decide +kernel
theorem orsh_num {j : Nat} {x : Int} (hj : j < 6) (h0 : 0 ≤ x) (h1 : x ≤ pw j - 1) : bits BinOp.or IntKind.i64 x (wrap64 (2 ^ j)) = x + pw j := by
  have := pw_63 (show j ≤ 6 by omega)
  obtain ⟨n, rfl⟩ := Int.eq_ofNat_of_zero_le h0
  exact orsh_nat j hj n (by omega) h1

theorem u8_eq {c m : UInt8} (h : ((c.toNat : Int) == (m.toNat : Int)) = true) : c = m := by
  rw [beq_iff_eq] at h; exact UInt8.toNat_inj.1 (by omega)
theorem u8_ne {c m : UInt8} (h : ((c.toNat : Int) == (m.toNat : Int)) = false) : c ≠ m := by
  intro e; subst e; simp at h
def rowRes (l : List UInt8) (k : Nat) : Int := if okL l k = true then rowV l k else 0
theorem rowRes_no {l : List UInt8} {k : Nat} (h : okL l k = false) : rowRes l k = 0 := by simp [rowRes, h]

set_option maxHeartbeats 400000 in
theorem row_from (s : ByteArray) (w : World) (hs : s.size ≤ 6) :
    Calls Try.prog 55 #[.string s] w fun e w' => e = .returned (.tuple #[.int .i64 (rowRes s.data.toList s.size), .bool (okL s.data.toList s.size)]) ∧ w = w' := by
  go_enter Try.func55, Try.ntmps55
  go_wp2
  go_loop [4, 8] (fun r i => ∃ k : Nat, k ≤ s.size ∧ i = .int .i64 k ∧ r = .int .i64 (rowV s.data.toList k) ∧ Hid (okL s.data.toList k = true)) (fun _ i => s.size - (intOf i).toNat)
  case atStart => exact ⟨0, Nat.zero_le _, rfl, rfl, rfl⟩
  case round =>
    obtain ⟨k, hk, rfl, rfl, hok⟩ := hrel
    have hbd := rowV_bd s.data.toList k
    by_cases hlt : k < s.size
    · have hor := Lib.hid (orsh_num (j := k) (by omega) hbd.1 hbd.2)
      have hg := Lib.hid (byte_get hlt)
      clear hbd
      go_wp2
      · rename_i h
        have h := u8_eq (m := 35) h
        refine ⟨⟨k + 1, by omega, by go_num, ?_, ?_⟩, by simp [intOf]; omega⟩
        · rw [hor.out]; simp only [rowV]; rw [hg.out, if_pos h]
        · show okL _ _ = true; simp only [okL]; rw [hok.out, hg.out, h]; rfl
      · rename_i h1 h2
        have h1 := u8_ne (m := 35) h1
        have h2 := u8_eq (m := 46) h2
        refine ⟨⟨k + 1, by omega, by go_num, ?_, ?_⟩, by simp [intOf]; omega⟩
        · simp only [rowV]; rw [hg.out, if_neg h1, Int.add_zero]
        · show okL _ _ = true; simp only [okL]; rw [hok.out, hg.out, h2]; rfl
      · rename_i h1 h2 _
        have h1 := u8_ne (m := 35) h1
        have h2 := u8_ne (m := 46) h2
        go_ret2
        have hn := okL_no hlt (by rw [hg.out]; exact h1) (by rw [hg.out]; exact h2)
        exact ⟨by rw [rowRes_no hn, hn]; rfl, rfl⟩
    · have : k = s.size := by omega
      subst this
      go_wp2
      go_ret2
      exact ⟨by rw [rowRes, if_pos hok.out, hok.out]; rfl, rfl⟩
end Go.Proofs.Ytiegonpgfbmidaa

