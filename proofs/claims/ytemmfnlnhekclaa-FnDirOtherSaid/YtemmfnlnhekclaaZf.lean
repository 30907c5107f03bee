/-
  Directions in the model: steps, lines; DirStep, DirLine, DirLines.
-/
import Derived.Test.YtemmfnlnhekclaaZa
import Derived.RegionTactic
import Derived.Deep.RegionLaw
namespace Go.Proofs.Ytemmfnlnhekclaa
set_option maxRecDepth 100000
open Go.RowKit

theorem ok21 (d : Int) (w : World) : Calls Try.prog 54 #[.int .i64 d] w fun e w' => e = .returned (.bool (inB d 0 7)) ∧ w = w' := by
  go_enter Try.func54, Try.ntmps54
  go_wp2_with fail
  refine (in_any d 0 7 _).mono ?_
  rintro e w1 ⟨rfl, rfl⟩
  go_wp2_with fail
  go_ret
  exact ⟨rfl, rfl⟩
theorem l21X_0 (w : World) : Calls Try.prog 55 #[.int .i64 0] w fun e w' => e = .returned (.int .i64 (dX 0)) ∧ Below w.heap.size w w' := by
  go_enter Try.func55, Try.ntmps55
  go_wp2_with fail
  go_ret
  exact ⟨rfl, (Below.refl _ _).alloc (Nat.le_refl _) _⟩
theorem l21Y_0 (w : World) : Calls Try.prog 56 #[.int .i64 0] w fun e w' => e = .returned (.int .i64 (dY 0)) ∧ Below w.heap.size w w' := by
  go_enter Try.func56, Try.ntmps56
  go_wp2_with fail
  go_ret
  exact ⟨rfl, (Below.refl _ _).alloc (Nat.le_refl _) _⟩
theorem sline_0 {i j : Int} (_hi : -100 ≤ i ∧ i ≤ 100) (_hj : -100 ≤ j ∧ j ≤ 100) (w : World) : Calls Try.prog 60 #[.int .i64 0, .int .i64 i, .int .i64 j] w fun e w' => e = .returned (.int .i64 (lnI 0 i j)) ∧ Below w.heap.size w w' := by
  go_enter Try.func60, Try.ntmps60
  go_wp2_with fail
  refine (l21X_0 _).mono ?_
  rintro e w1 ⟨rfl, hb1⟩
  simp only [dX]
  go_wp2_with fail
  refine (l21Y_0 _).mono ?_
  rintro e w2 ⟨rfl, hb2⟩
  simp only [dY]
  go_wp2_with fail
  go_ret
  refine ⟨congrArg (fun x => Ending.returned (.int .i64 x)) ?_, hb1.trans (hb2.mono hb1.size)⟩
  simp only [lnI, dX, dY]
  omega
theorem sstep_0 (w : World) : Calls Try.prog 21 #[.int .i64 0] w fun e w' => e = .returned (.tuple #[.int .i64 (dX 0), .int .i64 (dY 0), .bool true]) ∧ Below w.heap.size w w' := by
  have e0 : inB 0 0 7 = true := rfl
  go_enter Try.func21, Try.ntmps21
  go_wp2_with fail
  refine (ok21 0 _).mono ?_
  rintro e w0 ⟨rfl, rfl⟩
  rw [e0]
  go_wp2_with fail
  refine (l21X_0 _).mono ?_
  rintro e w1 ⟨rfl, hb1⟩
  simp only [dX]
  go_wp2_with fail
  refine (l21Y_0 _).mono ?_
  rintro e w2 ⟨rfl, hb2⟩
  simp only [dY]
  go_wp2_with fail
  go_ret3
  exact ⟨rfl, hb1.trans (hb2.mono hb1.size)⟩
theorem l21X_1 (w : World) : Calls Try.prog 55 #[.int .i64 1] w fun e w' => e = .returned (.int .i64 (dX 1)) ∧ Below w.heap.size w w' := by
  go_enter Try.func55, Try.ntmps55
  go_wp2_with fail
  go_ret
  exact ⟨rfl, (Below.refl _ _).alloc (Nat.le_refl _) _⟩
theorem l21Y_1 (w : World) : Calls Try.prog 56 #[.int .i64 1] w fun e w' => e = .returned (.int .i64 (dY 1)) ∧ Below w.heap.size w w' := by
  go_enter Try.func56, Try.ntmps56
  go_wp2_with fail
  go_ret
  exact ⟨rfl, (Below.refl _ _).alloc (Nat.le_refl _) _⟩
theorem sline_1 {i j : Int} (_hi : -100 ≤ i ∧ i ≤ 100) (_hj : -100 ≤ j ∧ j ≤ 100) (w : World) : Calls Try.prog 60 #[.int .i64 1, .int .i64 i, .int .i64 j] w fun e w' => e = .returned (.int .i64 (lnI 1 i j)) ∧ Below w.heap.size w w' := by
  go_enter Try.func60, Try.ntmps60
  go_wp2_with fail
  refine (l21X_1 _).mono ?_
  rintro e w1 ⟨rfl, hb1⟩
  simp only [dX]
  go_wp2_with fail
  refine (l21Y_1 _).mono ?_
  rintro e w2 ⟨rfl, hb2⟩
  simp only [dY]
  go_wp2_with fail
  go_ret
  refine ⟨congrArg (fun x => Ending.returned (.int .i64 x)) ?_, hb1.trans (hb2.mono hb1.size)⟩
  simp only [lnI, dX, dY]
  omega
theorem sstep_1 (w : World) : Calls Try.prog 21 #[.int .i64 1] w fun e w' => e = .returned (.tuple #[.int .i64 (dX 1), .int .i64 (dY 1), .bool true]) ∧ Below w.heap.size w w' := by
  have e0 : inB 1 0 7 = true := rfl
  go_enter Try.func21, Try.ntmps21
  go_wp2_with fail
  refine (ok21 1 _).mono ?_
  rintro e w0 ⟨rfl, rfl⟩
  rw [e0]
  go_wp2_with fail
  refine (l21X_1 _).mono ?_
  rintro e w1 ⟨rfl, hb1⟩
  simp only [dX]
  go_wp2_with fail
  refine (l21Y_1 _).mono ?_
  rintro e w2 ⟨rfl, hb2⟩
  simp only [dY]
  go_wp2_with fail
  go_ret3
  exact ⟨rfl, hb1.trans (hb2.mono hb1.size)⟩
theorem l21X_2 (w : World) : Calls Try.prog 55 #[.int .i64 2] w fun e w' => e = .returned (.int .i64 (dX 2)) ∧ Below w.heap.size w w' := by
  go_enter Try.func55, Try.ntmps55
  go_wp2_with fail
  go_ret
  exact ⟨rfl, (Below.refl _ _).alloc (Nat.le_refl _) _⟩
theorem l21Y_2 (w : World) : Calls Try.prog 56 #[.int .i64 2] w fun e w' => e = .returned (.int .i64 (dY 2)) ∧ Below w.heap.size w w' := by
  go_enter Try.func56, Try.ntmps56
  go_wp2_with fail
  go_ret
  exact ⟨rfl, (Below.refl _ _).alloc (Nat.le_refl _) _⟩
theorem sline_2 {i j : Int} (_hi : -100 ≤ i ∧ i ≤ 100) (_hj : -100 ≤ j ∧ j ≤ 100) (w : World) : Calls Try.prog 60 #[.int .i64 2, .int .i64 i, .int .i64 j] w fun e w' => e = .returned (.int .i64 (lnI 2 i j)) ∧ Below w.heap.size w w' := by
  go_enter Try.func60, Try.ntmps60
  go_wp2_with fail
  refine (l21X_2 _).mono ?_
  rintro e w1 ⟨rfl, hb1⟩
  simp only [dX]
  go_wp2_with fail
  refine (l21Y_2 _).mono ?_
  rintro e w2 ⟨rfl, hb2⟩
  simp only [dY]
  go_wp2_with fail
  go_ret
  refine ⟨congrArg (fun x => Ending.returned (.int .i64 x)) ?_, hb1.trans (hb2.mono hb1.size)⟩
  simp only [lnI, dX, dY]
  omega
theorem sstep_2 (w : World) : Calls Try.prog 21 #[.int .i64 2] w fun e w' => e = .returned (.tuple #[.int .i64 (dX 2), .int .i64 (dY 2), .bool true]) ∧ Below w.heap.size w w' := by
  have e0 : inB 2 0 7 = true := rfl
  go_enter Try.func21, Try.ntmps21
  go_wp2_with fail
  refine (ok21 2 _).mono ?_
  rintro e w0 ⟨rfl, rfl⟩
  rw [e0]
  go_wp2_with fail
  refine (l21X_2 _).mono ?_
  rintro e w1 ⟨rfl, hb1⟩
  simp only [dX]
  go_wp2_with fail
  refine (l21Y_2 _).mono ?_
  rintro e w2 ⟨rfl, hb2⟩
  simp only [dY]
  go_wp2_with fail
  go_ret3
  exact ⟨rfl, hb1.trans (hb2.mono hb1.size)⟩
theorem l21X_3 (w : World) : Calls Try.prog 55 #[.int .i64 3] w fun e w' => e = .returned (.int .i64 (dX 3)) ∧ Below w.heap.size w w' := by
  go_enter Try.func55, Try.ntmps55
  go_wp2_with fail
  go_ret
  exact ⟨rfl, (Below.refl _ _).alloc (Nat.le_refl _) _⟩
theorem l21Y_3 (w : World) : Calls Try.prog 56 #[.int .i64 3] w fun e w' => e = .returned (.int .i64 (dY 3)) ∧ Below w.heap.size w w' := by
  go_enter Try.func56, Try.ntmps56
  go_wp2_with fail
  go_ret
  exact ⟨rfl, (Below.refl _ _).alloc (Nat.le_refl _) _⟩
theorem sline_3 {i j : Int} (_hi : -100 ≤ i ∧ i ≤ 100) (_hj : -100 ≤ j ∧ j ≤ 100) (w : World) : Calls Try.prog 60 #[.int .i64 3, .int .i64 i, .int .i64 j] w fun e w' => e = .returned (.int .i64 (lnI 3 i j)) ∧ Below w.heap.size w w' := by
  go_enter Try.func60, Try.ntmps60
  go_wp2_with fail
  refine (l21X_3 _).mono ?_
  rintro e w1 ⟨rfl, hb1⟩
  simp only [dX]
  go_wp2_with fail
  refine (l21Y_3 _).mono ?_
  rintro e w2 ⟨rfl, hb2⟩
  simp only [dY]
  go_wp2_with fail
  go_ret
  refine ⟨congrArg (fun x => Ending.returned (.int .i64 x)) ?_, hb1.trans (hb2.mono hb1.size)⟩
  simp only [lnI, dX, dY]
  omega
theorem sstep_3 (w : World) : Calls Try.prog 21 #[.int .i64 3] w fun e w' => e = .returned (.tuple #[.int .i64 (dX 3), .int .i64 (dY 3), .bool true]) ∧ Below w.heap.size w w' := by
  have e0 : inB 3 0 7 = true := rfl
  go_enter Try.func21, Try.ntmps21
  go_wp2_with fail
  refine (ok21 3 _).mono ?_
  rintro e w0 ⟨rfl, rfl⟩
  rw [e0]
  go_wp2_with fail
  refine (l21X_3 _).mono ?_
  rintro e w1 ⟨rfl, hb1⟩
  simp only [dX]
  go_wp2_with fail
  refine (l21Y_3 _).mono ?_
  rintro e w2 ⟨rfl, hb2⟩
  simp only [dY]
  go_wp2_with fail
  go_ret3
  exact ⟨rfl, hb1.trans (hb2.mono hb1.size)⟩
theorem l21X_4 (w : World) : Calls Try.prog 55 #[.int .i64 4] w fun e w' => e = .returned (.int .i64 (dX 4)) ∧ Below w.heap.size w w' := by
  go_enter Try.func55, Try.ntmps55
  go_wp2_with fail
  go_ret
  exact ⟨rfl, (Below.refl _ _).alloc (Nat.le_refl _) _⟩
theorem l21Y_4 (w : World) : Calls Try.prog 56 #[.int .i64 4] w fun e w' => e = .returned (.int .i64 (dY 4)) ∧ Below w.heap.size w w' := by
  go_enter Try.func56, Try.ntmps56
  go_wp2_with fail
  go_ret
  exact ⟨rfl, (Below.refl _ _).alloc (Nat.le_refl _) _⟩
theorem sline_4 {i j : Int} (_hi : -100 ≤ i ∧ i ≤ 100) (_hj : -100 ≤ j ∧ j ≤ 100) (w : World) : Calls Try.prog 60 #[.int .i64 4, .int .i64 i, .int .i64 j] w fun e w' => e = .returned (.int .i64 (lnI 4 i j)) ∧ Below w.heap.size w w' := by
  go_enter Try.func60, Try.ntmps60
  go_wp2_with fail
  refine (l21X_4 _).mono ?_
  rintro e w1 ⟨rfl, hb1⟩
  simp only [dX]
  go_wp2_with fail
  refine (l21Y_4 _).mono ?_
  rintro e w2 ⟨rfl, hb2⟩
  simp only [dY]
  go_wp2_with fail
  go_ret
  refine ⟨congrArg (fun x => Ending.returned (.int .i64 x)) ?_, hb1.trans (hb2.mono hb1.size)⟩
  simp only [lnI, dX, dY]
  omega
theorem sstep_4 (w : World) : Calls Try.prog 21 #[.int .i64 4] w fun e w' => e = .returned (.tuple #[.int .i64 (dX 4), .int .i64 (dY 4), .bool true]) ∧ Below w.heap.size w w' := by
  have e0 : inB 4 0 7 = true := rfl
  go_enter Try.func21, Try.ntmps21
  go_wp2_with fail
  refine (ok21 4 _).mono ?_
  rintro e w0 ⟨rfl, rfl⟩
  rw [e0]
  go_wp2_with fail
  refine (l21X_4 _).mono ?_
  rintro e w1 ⟨rfl, hb1⟩
  simp only [dX]
  go_wp2_with fail
  refine (l21Y_4 _).mono ?_
  rintro e w2 ⟨rfl, hb2⟩
  simp only [dY]
  go_wp2_with fail
  go_ret3
  exact ⟨rfl, hb1.trans (hb2.mono hb1.size)⟩
theorem l21X_5 (w : World) : Calls Try.prog 55 #[.int .i64 5] w fun e w' => e = .returned (.int .i64 (dX 5)) ∧ Below w.heap.size w w' := by
  go_enter Try.func55, Try.ntmps55
  go_wp2_with fail
  go_ret
  exact ⟨rfl, (Below.refl _ _).alloc (Nat.le_refl _) _⟩
theorem l21Y_5 (w : World) : Calls Try.prog 56 #[.int .i64 5] w fun e w' => e = .returned (.int .i64 (dY 5)) ∧ Below w.heap.size w w' := by
  go_enter Try.func56, Try.ntmps56
  go_wp2_with fail
  go_ret
  exact ⟨rfl, (Below.refl _ _).alloc (Nat.le_refl _) _⟩
theorem sline_5 {i j : Int} (_hi : -100 ≤ i ∧ i ≤ 100) (_hj : -100 ≤ j ∧ j ≤ 100) (w : World) : Calls Try.prog 60 #[.int .i64 5, .int .i64 i, .int .i64 j] w fun e w' => e = .returned (.int .i64 (lnI 5 i j)) ∧ Below w.heap.size w w' := by
  go_enter Try.func60, Try.ntmps60
  go_wp2_with fail
  refine (l21X_5 _).mono ?_
  rintro e w1 ⟨rfl, hb1⟩
  simp only [dX]
  go_wp2_with fail
  refine (l21Y_5 _).mono ?_
  rintro e w2 ⟨rfl, hb2⟩
  simp only [dY]
  go_wp2_with fail
  go_ret
  refine ⟨congrArg (fun x => Ending.returned (.int .i64 x)) ?_, hb1.trans (hb2.mono hb1.size)⟩
  simp only [lnI, dX, dY]
  omega
theorem sstep_5 (w : World) : Calls Try.prog 21 #[.int .i64 5] w fun e w' => e = .returned (.tuple #[.int .i64 (dX 5), .int .i64 (dY 5), .bool true]) ∧ Below w.heap.size w w' := by
  have e0 : inB 5 0 7 = true := rfl
  go_enter Try.func21, Try.ntmps21
  go_wp2_with fail
  refine (ok21 5 _).mono ?_
  rintro e w0 ⟨rfl, rfl⟩
  rw [e0]
  go_wp2_with fail
  refine (l21X_5 _).mono ?_
  rintro e w1 ⟨rfl, hb1⟩
  simp only [dX]
  go_wp2_with fail
  refine (l21Y_5 _).mono ?_
  rintro e w2 ⟨rfl, hb2⟩
  simp only [dY]
  go_wp2_with fail
  go_ret3
  exact ⟨rfl, hb1.trans (hb2.mono hb1.size)⟩
theorem l21X_6 (w : World) : Calls Try.prog 55 #[.int .i64 6] w fun e w' => e = .returned (.int .i64 (dX 6)) ∧ Below w.heap.size w w' := by
  go_enter Try.func55, Try.ntmps55
  go_wp2_with fail
  go_ret
  exact ⟨rfl, (Below.refl _ _).alloc (Nat.le_refl _) _⟩
theorem l21Y_6 (w : World) : Calls Try.prog 56 #[.int .i64 6] w fun e w' => e = .returned (.int .i64 (dY 6)) ∧ Below w.heap.size w w' := by
  go_enter Try.func56, Try.ntmps56
  go_wp2_with fail
  go_ret
  exact ⟨rfl, (Below.refl _ _).alloc (Nat.le_refl _) _⟩
theorem sline_6 {i j : Int} (_hi : -100 ≤ i ∧ i ≤ 100) (_hj : -100 ≤ j ∧ j ≤ 100) (w : World) : Calls Try.prog 60 #[.int .i64 6, .int .i64 i, .int .i64 j] w fun e w' => e = .returned (.int .i64 (lnI 6 i j)) ∧ Below w.heap.size w w' := by
  go_enter Try.func60, Try.ntmps60
  go_wp2_with fail
  refine (l21X_6 _).mono ?_
  rintro e w1 ⟨rfl, hb1⟩
  simp only [dX]
  go_wp2_with fail
  refine (l21Y_6 _).mono ?_
  rintro e w2 ⟨rfl, hb2⟩
  simp only [dY]
  go_wp2_with fail
  go_ret
  refine ⟨congrArg (fun x => Ending.returned (.int .i64 x)) ?_, hb1.trans (hb2.mono hb1.size)⟩
  simp only [lnI, dX, dY]
  omega
theorem sstep_6 (w : World) : Calls Try.prog 21 #[.int .i64 6] w fun e w' => e = .returned (.tuple #[.int .i64 (dX 6), .int .i64 (dY 6), .bool true]) ∧ Below w.heap.size w w' := by
  have e0 : inB 6 0 7 = true := rfl
  go_enter Try.func21, Try.ntmps21
  go_wp2_with fail
  refine (ok21 6 _).mono ?_
  rintro e w0 ⟨rfl, rfl⟩
  rw [e0]
  go_wp2_with fail
  refine (l21X_6 _).mono ?_
  rintro e w1 ⟨rfl, hb1⟩
  simp only [dX]
  go_wp2_with fail
  refine (l21Y_6 _).mono ?_
  rintro e w2 ⟨rfl, hb2⟩
  simp only [dY]
  go_wp2_with fail
  go_ret3
  exact ⟨rfl, hb1.trans (hb2.mono hb1.size)⟩
theorem l21X_7 (w : World) : Calls Try.prog 55 #[.int .i64 7] w fun e w' => e = .returned (.int .i64 (dX 7)) ∧ Below w.heap.size w w' := by
  go_enter Try.func55, Try.ntmps55
  go_wp2_with fail
  go_ret
  exact ⟨rfl, (Below.refl _ _).alloc (Nat.le_refl _) _⟩
theorem l21Y_7 (w : World) : Calls Try.prog 56 #[.int .i64 7] w fun e w' => e = .returned (.int .i64 (dY 7)) ∧ Below w.heap.size w w' := by
  go_enter Try.func56, Try.ntmps56
  go_wp2_with fail
  go_ret
  exact ⟨rfl, (Below.refl _ _).alloc (Nat.le_refl _) _⟩
theorem sline_7 {i j : Int} (_hi : -100 ≤ i ∧ i ≤ 100) (_hj : -100 ≤ j ∧ j ≤ 100) (w : World) : Calls Try.prog 60 #[.int .i64 7, .int .i64 i, .int .i64 j] w fun e w' => e = .returned (.int .i64 (lnI 7 i j)) ∧ Below w.heap.size w w' := by
  go_enter Try.func60, Try.ntmps60
  go_wp2_with fail
  refine (l21X_7 _).mono ?_
  rintro e w1 ⟨rfl, hb1⟩
  simp only [dX]
  go_wp2_with fail
  refine (l21Y_7 _).mono ?_
  rintro e w2 ⟨rfl, hb2⟩
  simp only [dY]
  go_wp2_with fail
  go_ret
  refine ⟨congrArg (fun x => Ending.returned (.int .i64 x)) ?_, hb1.trans (hb2.mono hb1.size)⟩
  simp only [lnI, dX, dY]
  omega
theorem sstep_7 (w : World) : Calls Try.prog 21 #[.int .i64 7] w fun e w' => e = .returned (.tuple #[.int .i64 (dX 7), .int .i64 (dY 7), .bool true]) ∧ Below w.heap.size w w' := by
  have e0 : inB 7 0 7 = true := rfl
  go_enter Try.func21, Try.ntmps21
  go_wp2_with fail
  refine (ok21 7 _).mono ?_
  rintro e w0 ⟨rfl, rfl⟩
  rw [e0]
  go_wp2_with fail
  refine (l21X_7 _).mono ?_
  rintro e w1 ⟨rfl, hb1⟩
  simp only [dX]
  go_wp2_with fail
  refine (l21Y_7 _).mono ?_
  rintro e w2 ⟨rfl, hb2⟩
  simp only [dY]
  go_wp2_with fail
  go_ret3
  exact ⟨rfl, hb1.trans (hb2.mono hb1.size)⟩
theorem sline_ok {d : Nat} (hd : d < 8) {i j : Int} (hi : -100 ≤ i ∧ i ≤ 100) (hj : -100 ≤ j ∧ j ≤ 100) (w : World) : Calls Try.prog 60 #[.int .i64 d, .int .i64 i, .int .i64 j] w fun e w' => e = .returned (.int .i64 (lnI d i j)) ∧ Below w.heap.size w w' := by
  refine dir_all (P := fun d => Calls Try.prog 60 #[.int .i64 (d : Nat), .int .i64 i, .int .i64 j] w fun e w' => e = .returned (.int .i64 (lnI d i j)) ∧ Below w.heap.size w w') ?_ ?_ ?_ ?_ ?_ ?_ ?_ ?_ hd
  · exact sline_0 hi hj w
  · exact sline_1 hi hj w
  · exact sline_2 hi hj w
  · exact sline_3 hi hj w
  · exact sline_4 hi hj w
  · exact sline_5 hi hj w
  · exact sline_6 hi hj w
  · exact sline_7 hi hj w
theorem sstep_ok {d : Nat} (hd : d < 8) (w : World) : Calls Try.prog 21 #[.int .i64 d] w fun e w' => e = .returned (.tuple #[.int .i64 (dX d), .int .i64 (dY d), .bool true]) ∧ Below w.heap.size w w' := by
  refine dir_all (P := fun d => Calls Try.prog 21 #[.int .i64 (d : Nat)] w fun e w' => e = .returned (.tuple #[.int .i64 (dX d), .int .i64 (dY d), .bool true]) ∧ Below w.heap.size w w') ?_ ?_ ?_ ?_ ?_ ?_ ?_ ?_ hd
  · exact sstep_0 w
  · exact sstep_1 w
  · exact sstep_2 w
  · exact sstep_3 w
  · exact sstep_4 w
  · exact sstep_5 w
  · exact sstep_6 w
  · exact sstep_7 w
theorem sstep_no {d : Int} (h : ¬ (0 ≤ d ∧ d ≤ 7)) (w : World) : Calls Try.prog 21 #[.int .i64 d] w fun e w' => e = .returned (.tuple #[.int .i64 0, .int .i64 0, .bool false]) ∧ Below w.heap.size w w' := by
  have e0 : inB d 0 7 = false := inB_no (by omega)
  go_enter Try.func21, Try.ntmps21
  go_wp2_with fail
  refine (ok21 d _).mono ?_
  rintro e w0 ⟨rfl, rfl⟩
  rw [e0]
  go_wp2_with fail
  go_ret3
  exact ⟨rfl, Below.refl _ _⟩
theorem sdline_no {d i j : Int} (h : ¬ ((0 ≤ d ∧ d ≤ 7) ∧ (0 ≤ i ∧ i ≤ 5) ∧ (0 ≤ j ∧ j ≤ 5))) (w : World) : Calls Try.prog 24 #[.int .i64 d, .int .i64 i, .int .i64 j] w fun e w' => e = .returned (.tuple #[.int .i64 0, .bool false]) ∧ Below w.heap.size w w' := by
  have hh : ¬ (inB d 0 7 = true ∧ inB i 0 5 = true ∧ inB j 0 5 = true) := fun hx => h ⟨inB_iff.1 hx.1, inB_iff.1 hx.2.1, inB_iff.1 hx.2.2⟩
  clear h
  cases h1 : inB d 0 7
  · clear hh
    go_enter Try.func24, Try.ntmps24
    go_wp2_with (first | (go_at_call 54; refine (ok21 _ _).mono ?_; rintro e w' ⟨rfl, rfl⟩) | (go_at_call 59; refine (in_any _ _ _ _).mono ?_; rintro e w' ⟨rfl, rfl⟩))
    go_ret2
    exact ⟨rfl, Below.refl _ _⟩
  cases h2 : inB i 0 5
  · clear hh
    go_enter Try.func24, Try.ntmps24
    go_wp2_with (first | (go_at_call 54; refine (ok21 _ _).mono ?_; rintro e w' ⟨rfl, rfl⟩) | (go_at_call 59; refine (in_any _ _ _ _).mono ?_; rintro e w' ⟨rfl, rfl⟩))
    go_ret2
    exact ⟨rfl, Below.refl _ _⟩
  have h3 : inB j 0 5 = false := by
    cases h3 : inB j 0 5
    · rfl
    · exact absurd ⟨h1, h2, h3⟩ hh
  clear hh
  go_enter Try.func24, Try.ntmps24
  go_wp2_with (first | (go_at_call 54; refine (ok21 _ _).mono ?_; rintro e w' ⟨rfl, rfl⟩) | (go_at_call 59; refine (in_any _ _ _ _).mono ?_; rintro e w' ⟨rfl, rfl⟩))
  go_ret2
  exact ⟨rfl, Below.refl _ _⟩
theorem sdline_ok {d i j : Nat} (hd : d < 8) (hi : i < 6) (hj : j < 6) (w : World) : Calls Try.prog 24 #[.int .i64 d, .int .i64 i, .int .i64 j] w fun e w' => e = .returned (.tuple #[.int .i64 (lnI d i j), .bool true]) ∧ Below w.heap.size w w' := by
  have cl : Hid (∀ wx, Calls Try.prog 60 #[.int .i64 d, .int .i64 i, .int .i64 j] wx fun e w' => e = .returned (.int .i64 (lnI d i j)) ∧ Below wx.heap.size wx w') := fun wx => sline_ok hd (by omega) (by omega) wx
  have h1 : inB (d : Int) 0 7 = true := inB_yes (by omega) (by omega)
  have h2 : inB (i : Int) 0 5 = true := inB_yes (by omega) (by omega)
  have h3 : inB (j : Int) 0 5 = true := inB_yes (by omega) (by omega)
  generalize lnI d i j = z at cl
  go_enter Try.func24, Try.ntmps24
  go_wp2_with (first | (go_at_call 54; refine (ok21 _ _).mono ?_; rintro e w' ⟨rfl, rfl⟩) | (go_at_call 59; refine (in_any _ _ _ _).mono ?_; rintro e w' ⟨rfl, rfl⟩))
  refine (cl.out _).mono ?_
  rintro e w1 ⟨rfl, hb⟩
  go_wp2_with fail
  go_ret2
  exact ⟨rfl, hb⟩
theorem sdlines_no {d h l : Int} (hd : ¬ ((0 ≤ d ∧ d ≤ 7) ∧ inB h 1 6 = true ∧ inB l 1 6 = true)) (w : World) : Calls Try.prog 43 #[.int .i64 d, .int .i64 h, .int .i64 l] w fun e w' => e = .returned (.tuple #[.int .i64 0, .int .i64 0, .bool false]) ∧ Below w.heap.size w w' := by
  have hh : ¬ (inB d 0 7 = true ∧ inB h 1 6 = true ∧ inB l 1 6 = true) := fun hx => hd ⟨inB_iff.1 hx.1, hx.2.1, hx.2.2⟩
  clear hd
  cases h1 : inB d 0 7
  · clear hh
    go_enter Try.func43, Try.ntmps43
    go_wp2_with (first | (go_at_call 54; refine (ok21 _ _).mono ?_; rintro e w' ⟨rfl, rfl⟩) | (go_at_call 59; refine (in_any _ _ _ _).mono ?_; rintro e w' ⟨rfl, rfl⟩))
    go_ret3
    exact ⟨rfl, Below.refl _ _⟩
  cases h2 : inB h 1 6
  · clear hh
    go_enter Try.func43, Try.ntmps43
    go_wp2_with (first | (go_at_call 54; refine (ok21 _ _).mono ?_; rintro e w' ⟨rfl, rfl⟩) | (go_at_call 59; refine (in_any _ _ _ _).mono ?_; rintro e w' ⟨rfl, rfl⟩))
    go_ret3
    exact ⟨rfl, Below.refl _ _⟩
  have h3 : inB l 1 6 = false := by
    cases h3 : inB l 1 6
    · rfl
    · exact absurd ⟨h1, h2, h3⟩ hh
  clear hh
  go_enter Try.func43, Try.ntmps43
  go_wp2_with (first | (go_at_call 54; refine (ok21 _ _).mono ?_; rintro e w' ⟨rfl, rfl⟩) | (go_at_call 59; refine (in_any _ _ _ _).mono ?_; rintro e w' ⟨rfl, rfl⟩))
  go_ret3
  exact ⟨rfl, Below.refl _ _⟩
/-- The least and the greatest line are those of corners. -/
theorem corners {d n W : Nat} (hd : d < 8) (hn : 1 ≤ n) (hW : 1 ≤ W) :
    (loI d W ≤ 0 ∧ loI d W ≤ lnI d 0 ((W : Int) - 1) ∧ loI d W ≤ lnI d ((n : Int) - 1) 0 ∧ loI d W ≤ lnI d ((n : Int) - 1) ((W : Int) - 1) ∧ (loI d W = 0 ∨ loI d W = lnI d 0 ((W : Int) - 1))) ∧
    0 ≤ hiI d n W ∧ lnI d 0 ((W : Int) - 1) ≤ hiI d n W ∧ lnI d ((n : Int) - 1) 0 ≤ hiI d n W ∧ lnI d ((n : Int) - 1) ((W : Int) - 1) ≤ hiI d n W ∧ (hiI d n W = lnI d ((n : Int) - 1) 0 ∨ hiI d n W = lnI d ((n : Int) - 1) ((W : Int) - 1)) := by
  rcases (show d = 0 ∨ d = 1 ∨ d = 2 ∨ d = 3 ∨ d = 4 ∨ d = 5 ∨ d = 6 ∨ d = 7 by omega) with r | r | r | r | r | r | r | r <;> subst r <;> simp only [lnI, loI, hiI, dX, dY, Int.reduceLT, Int.reduceNeg, reduceIte] <;> refine ⟨⟨?_, ?_, ?_, ?_, ?_⟩, ?_, ?_, ?_, ?_, ?_⟩ <;> (try simp only [true_or, or_true]) <;> (try trivial) <;> omega
theorem min4 {P : Program} {w : World} (ts : Array TypeId) (t : TypeId) (x y z m : Int) (h : m ≤ 0 ∧ m ≤ x ∧ m ≤ y ∧ m ≤ z ∧ (m = 0 ∨ m = x)) : (Builtin.min_ ts t #[.int .i64 0, .int .i64 x, .int .i64 y, .int .i64 z]).run P w = .ok (.int .i64 m) w := by
  have e : (if z < (if y < (if x < 0 then x else 0) then y else (if x < 0 then x else 0)) then z else (if y < (if x < 0 then x else 0) then y else (if x < 0 then x else 0))) = m := by
    split <;> split <;> split <;> omega
  rw [← e]
  simp [Builtin.min_, Builtin.min2]
theorem max4 {P : Program} {w : World} (ts : Array TypeId) (t : TypeId) (x y z m : Int) (h : 0 ≤ m ∧ x ≤ m ∧ y ≤ m ∧ z ≤ m ∧ (m = y ∨ m = z)) : (Builtin.max_ ts t #[.int .i64 0, .int .i64 x, .int .i64 y, .int .i64 z]).run P w = .ok (.int .i64 m) w := by
  have e : (if (if (if 0 < x then x else 0) < y then y else (if 0 < x then x else 0)) < z then z else (if (if 0 < x then x else 0) < y then y else (if 0 < x then x else 0))) = m := by
    split <;> split <;> split <;> omega
  rw [← e]
  simp [Builtin.max_, Builtin.max2]
set_option maxHeartbeats 1600000 in
theorem sdlines_ok {d n W : Nat} (hd : d < 8) (hn : 1 ≤ n ∧ n ≤ 6) (hW : 1 ≤ W ∧ W ≤ 6) (w : World) : Calls Try.prog 43 #[.int .i64 d, .int .i64 n, .int .i64 W] w fun e w' => e = .returned (.tuple #[.int .i64 (loI d W), .int .i64 (hiI d n W), .bool true]) ∧ Below w.heap.size w w' := by
  have c1 : Hid (∀ wx, Calls Try.prog 60 #[.int .i64 d, .int .i64 0, .int .i64 ((W : Int) - 1)] wx fun e w' => e = .returned (.int .i64 (lnI d 0 ((W : Int) - 1))) ∧ Below wx.heap.size wx w') := fun wx => sline_ok hd (by omega) (by omega) wx
  have c2 : Hid (∀ wx, Calls Try.prog 60 #[.int .i64 d, .int .i64 ((n : Int) - 1), .int .i64 0] wx fun e w' => e = .returned (.int .i64 (lnI d ((n : Int) - 1) 0)) ∧ Below wx.heap.size wx w') := fun wx => sline_ok hd (by omega) (by omega) wx
  have c3 : Hid (∀ wx, Calls Try.prog 60 #[.int .i64 d, .int .i64 ((n : Int) - 1), .int .i64 ((W : Int) - 1)] wx fun e w' => e = .returned (.int .i64 (lnI d ((n : Int) - 1) ((W : Int) - 1))) ∧ Below wx.heap.size wx w') := fun wx => sline_ok hd (by omega) (by omega) wx
  have hcor := corners hd hn.1 hW.1
  have h1 : inB (d : Int) 0 7 = true := inB_yes (by omega) (by omega)
  have h2 : inB (n : Int) 1 6 = true := inB_yes (by omega) (by omega)
  have h3 : inB (W : Int) 1 6 = true := inB_yes (by omega) (by omega)
  generalize loI d W = lo at hcor
  generalize hiI d n W = hi at hcor
  generalize lnI d 0 ((W : Int) - 1) = x at hcor c1
  generalize lnI d ((n : Int) - 1) 0 = y at hcor c2
  generalize lnI d ((n : Int) - 1) ((W : Int) - 1) = z at hcor c3
  have hmi : ∀ ts t (wx : World), (Builtin.min_ ts t #[.int .i64 0, .int .i64 x, .int .i64 y, .int .i64 z]).run Try.prog wx = .ok (.int .i64 lo) wx := fun ts t wx => min4 ts t x y z lo hcor.1
  have hma : ∀ ts t (wx : World), (Builtin.max_ ts t #[.int .i64 0, .int .i64 x, .int .i64 y, .int .i64 z]).run Try.prog wx = .ok (.int .i64 hi) wx := fun ts t wx => max4 ts t x y z hi hcor.2
  clear hcor
  go_enter Try.func43, Try.ntmps43
  go_wp2_with (first | (go_at_call 54; refine (ok21 _ _).mono ?_; rintro e w' ⟨rfl, rfl⟩) | (go_at_call 59; refine (in_any _ _ _ _).mono ?_; rintro e w' ⟨rfl, rfl⟩))
  refine (c1.out _).mono ?_
  rintro e w1 ⟨rfl, hb1⟩
  go_wp2_with fail
  refine (c2.out _).mono ?_
  rintro e w2 ⟨rfl, hb2⟩
  go_wp2_with fail
  refine (c3.out _).mono ?_
  rintro e w3 ⟨rfl, hb3⟩
  go_wp2_with fail
  go_ret3
  exact ⟨rfl, hb1.trans ((hb2.trans (hb3.mono hb2.size)).mono hb1.size)⟩
end Go.Proofs.Ytemmfnlnhekclaa

