/-
  Directions in the program: how an interface finds a direction's method, lines, the least and the greatest line; DirStep, DirLine, DirLines.
-/
import Derived.Test.YtemmfnlnhekclaaZa
import Derived.RegionTactic
import Derived.Deep.RegionLaw
namespace Go.Proofs.Ytemmfnlnhekclaa
set_option maxRecDepth 100000
open Go.RowKit

theorem two_ret {a b c d : Int} (h1 : a = c) (h2 : b = d) : Ending.returned (.tuple #[.int .i64 a, .int .i64 b]) = .returned (.tuple #[.int .i64 c, .int .i64 d]) := by rw [h1, h2]
/-- A direction as a value of an interface. -/
def dirV : Nat → Value
  | 0 => .iface 90 (.agg #[])
  | 1 => .iface 91 (.agg #[])
  | 2 => .iface 92 (.agg #[])
  | 3 => .iface 93 (.agg #[])
  | 4 => .iface 94 (.agg #[])
  | 5 => .iface 95 (.agg #[])
  | 6 => .iface 96 (.agg #[])
  | _ => .iface 97 (.agg #[])
theorem na_dir0 (w : World) : (nilAhead 222 90 (.agg #[]) "loop.example/discretetomography/impl.step").run Try.prog w = .ok (some false) w := by kernel_rfl
theorem me_dir0 (w : World) : (Go.method 222 90 (.agg #[]) "loop.example/discretetomography/impl.step").run Try.prog w = .ok (115, .agg #[]) w := by kernel_rfl
theorem ta_dir0_3 (w : World) : (Instr.typeAssert (.iface 90 (.agg #[])) 65 93 true).run Try.prog w = .ok (.tuple #[.agg #[], .bool false]) w := by kernel_rfl
theorem ta_dir0_6 (w : World) : (Instr.typeAssert (.iface 90 (.agg #[])) 65 96 true).run Try.prog w = .ok (.tuple #[.agg #[], .bool false]) w := by kernel_rfl
theorem ta_dir0_7 (w : World) : (Instr.typeAssert (.iface 90 (.agg #[])) 65 97 true).run Try.prog w = .ok (.tuple #[.agg #[], .bool false]) w := by kernel_rfl
theorem step_dir0 (w : World) : Calls Try.prog 115 #[.agg #[]] w fun e w' => e = .returned (.tuple #[.int .i64 (dX 0), .int .i64 (dY 0)]) ∧ Below w.heap.size w w' := by
  go_enter Try.func115, Try.ntmps115
  go_wp2
  go_ret2
  exact ⟨rfl, (Below.refl _ _).alloc (Nat.le_refl _) _⟩
theorem line_dir0 {i j : Int} (_hi : -100 ≤ i ∧ i ≤ 100) (_hj : -100 ≤ j ∧ j ≤ 100) (w : World) : Calls Try.prog 57 #[.iface 90 (.agg #[]), .int .i64 i, .int .i64 j] w fun e w' => e = .returned (.int .i64 (lnI 0 i j)) ∧ Below w.heap.size w w' := by
  have na := na_dir0
  have me := me_dir0
  go_enter Try.func57, Try.ntmps57
  go_wp2_with fail
  refine (step_dir0 _).mono ?_
  rintro e w1 ⟨rfl, hb⟩
  simp only [dX, dY]
  go_wp2_with fail
  go_ret
  refine ⟨congrArg (fun x => Ending.returned (.int .i64 x)) ?_, hb⟩
  simp only [lnI, dX, dY]
  omega
theorem lines_dir0 {n W : Nat} (hn : 1 ≤ n ∧ n ≤ 90) (hW : 1 ≤ W ∧ W ≤ 90) (w : World) : Calls Try.prog 62 #[.iface 90 (.agg #[]), .int .i64 n, .int .i64 W] w fun e w' => e = .returned (.tuple #[.int .i64 (loI 0 W), .int .i64 (hiI 0 n W)]) ∧ Below w.heap.size w w' := by
  have e1 : (n : Int) + -1 = (n : Int) - 1 := rfl
  have e2 : (W : Int) + -1 = (W : Int) - 1 := rfl
  have t1 := ta_dir0_3
  have t2 := ta_dir0_6
  have t3 := ta_dir0_7
  go_enter Try.func62, Try.ntmps62
  go_wp2_with fail
  refine (line_dir0 (by omega) (by omega) _).mono ?_
  rintro e w1 ⟨rfl, hb1⟩
  go_wp2_with fail
  refine (line_dir0 (by omega) (by omega) _).mono ?_
  rintro e w2 ⟨rfl, hb2⟩
  go_wp2_with fail
  go_ret2
  refine ⟨two_ret ?_ ?_, hb1.trans (hb2.mono hb1.size)⟩
  · simp only [loI, lnI, dX, dY, Int.reduceLT, reduceIte]
    all_goals omega
  · simp only [hiI, lnI, dX, dY, Int.reduceLT, reduceIte]
    all_goals omega
theorem na_dir1 (w : World) : (nilAhead 222 91 (.agg #[]) "loop.example/discretetomography/impl.step").run Try.prog w = .ok (some false) w := by kernel_rfl
theorem me_dir1 (w : World) : (Go.method 222 91 (.agg #[]) "loop.example/discretetomography/impl.step").run Try.prog w = .ok (116, .agg #[]) w := by kernel_rfl
theorem ta_dir1_3 (w : World) : (Instr.typeAssert (.iface 91 (.agg #[])) 65 93 true).run Try.prog w = .ok (.tuple #[.agg #[], .bool false]) w := by kernel_rfl
theorem ta_dir1_6 (w : World) : (Instr.typeAssert (.iface 91 (.agg #[])) 65 96 true).run Try.prog w = .ok (.tuple #[.agg #[], .bool false]) w := by kernel_rfl
theorem ta_dir1_7 (w : World) : (Instr.typeAssert (.iface 91 (.agg #[])) 65 97 true).run Try.prog w = .ok (.tuple #[.agg #[], .bool false]) w := by kernel_rfl
theorem step_dir1 (w : World) : Calls Try.prog 116 #[.agg #[]] w fun e w' => e = .returned (.tuple #[.int .i64 (dX 1), .int .i64 (dY 1)]) ∧ Below w.heap.size w w' := by
  go_enter Try.func116, Try.ntmps116
  go_wp2
  go_ret2
  exact ⟨rfl, (Below.refl _ _).alloc (Nat.le_refl _) _⟩
theorem line_dir1 {i j : Int} (_hi : -100 ≤ i ∧ i ≤ 100) (_hj : -100 ≤ j ∧ j ≤ 100) (w : World) : Calls Try.prog 57 #[.iface 91 (.agg #[]), .int .i64 i, .int .i64 j] w fun e w' => e = .returned (.int .i64 (lnI 1 i j)) ∧ Below w.heap.size w w' := by
  have na := na_dir1
  have me := me_dir1
  go_enter Try.func57, Try.ntmps57
  go_wp2_with fail
  refine (step_dir1 _).mono ?_
  rintro e w1 ⟨rfl, hb⟩
  simp only [dX, dY]
  go_wp2_with fail
  go_ret
  refine ⟨congrArg (fun x => Ending.returned (.int .i64 x)) ?_, hb⟩
  simp only [lnI, dX, dY]
  omega
theorem lines_dir1 {n W : Nat} (hn : 1 ≤ n ∧ n ≤ 90) (hW : 1 ≤ W ∧ W ≤ 90) (w : World) : Calls Try.prog 62 #[.iface 91 (.agg #[]), .int .i64 n, .int .i64 W] w fun e w' => e = .returned (.tuple #[.int .i64 (loI 1 W), .int .i64 (hiI 1 n W)]) ∧ Below w.heap.size w w' := by
  have e1 : (n : Int) + -1 = (n : Int) - 1 := rfl
  have e2 : (W : Int) + -1 = (W : Int) - 1 := rfl
  have t1 := ta_dir1_3
  have t2 := ta_dir1_6
  have t3 := ta_dir1_7
  go_enter Try.func62, Try.ntmps62
  go_wp2_with fail
  refine (line_dir1 (by omega) (by omega) _).mono ?_
  rintro e w1 ⟨rfl, hb1⟩
  go_wp2_with fail
  refine (line_dir1 (by omega) (by omega) _).mono ?_
  rintro e w2 ⟨rfl, hb2⟩
  go_wp2_with fail
  go_ret2
  refine ⟨two_ret ?_ ?_, hb1.trans (hb2.mono hb1.size)⟩
  · simp only [loI, lnI, dX, dY, Int.reduceLT, reduceIte]
    all_goals omega
  · simp only [hiI, lnI, dX, dY, Int.reduceLT, reduceIte]
    all_goals omega
theorem na_dir2 (w : World) : (nilAhead 222 92 (.agg #[]) "loop.example/discretetomography/impl.step").run Try.prog w = .ok (some false) w := by kernel_rfl
theorem me_dir2 (w : World) : (Go.method 222 92 (.agg #[]) "loop.example/discretetomography/impl.step").run Try.prog w = .ok (117, .agg #[]) w := by kernel_rfl
theorem ta_dir2_3 (w : World) : (Instr.typeAssert (.iface 92 (.agg #[])) 65 93 true).run Try.prog w = .ok (.tuple #[.agg #[], .bool false]) w := by kernel_rfl
theorem ta_dir2_6 (w : World) : (Instr.typeAssert (.iface 92 (.agg #[])) 65 96 true).run Try.prog w = .ok (.tuple #[.agg #[], .bool false]) w := by kernel_rfl
theorem ta_dir2_7 (w : World) : (Instr.typeAssert (.iface 92 (.agg #[])) 65 97 true).run Try.prog w = .ok (.tuple #[.agg #[], .bool false]) w := by kernel_rfl
theorem step_dir2 (w : World) : Calls Try.prog 117 #[.agg #[]] w fun e w' => e = .returned (.tuple #[.int .i64 (dX 2), .int .i64 (dY 2)]) ∧ Below w.heap.size w w' := by
  go_enter Try.func117, Try.ntmps117
  go_wp2
  go_ret2
  exact ⟨rfl, (Below.refl _ _).alloc (Nat.le_refl _) _⟩
theorem line_dir2 {i j : Int} (_hi : -100 ≤ i ∧ i ≤ 100) (_hj : -100 ≤ j ∧ j ≤ 100) (w : World) : Calls Try.prog 57 #[.iface 92 (.agg #[]), .int .i64 i, .int .i64 j] w fun e w' => e = .returned (.int .i64 (lnI 2 i j)) ∧ Below w.heap.size w w' := by
  have na := na_dir2
  have me := me_dir2
  go_enter Try.func57, Try.ntmps57
  go_wp2_with fail
  refine (step_dir2 _).mono ?_
  rintro e w1 ⟨rfl, hb⟩
  simp only [dX, dY]
  go_wp2_with fail
  go_ret
  refine ⟨congrArg (fun x => Ending.returned (.int .i64 x)) ?_, hb⟩
  simp only [lnI, dX, dY]
  omega
theorem lines_dir2 {n W : Nat} (hn : 1 ≤ n ∧ n ≤ 90) (hW : 1 ≤ W ∧ W ≤ 90) (w : World) : Calls Try.prog 62 #[.iface 92 (.agg #[]), .int .i64 n, .int .i64 W] w fun e w' => e = .returned (.tuple #[.int .i64 (loI 2 W), .int .i64 (hiI 2 n W)]) ∧ Below w.heap.size w w' := by
  have e1 : (n : Int) + -1 = (n : Int) - 1 := rfl
  have e2 : (W : Int) + -1 = (W : Int) - 1 := rfl
  have t1 := ta_dir2_3
  have t2 := ta_dir2_6
  have t3 := ta_dir2_7
  go_enter Try.func62, Try.ntmps62
  go_wp2_with fail
  refine (line_dir2 (by omega) (by omega) _).mono ?_
  rintro e w1 ⟨rfl, hb1⟩
  go_wp2_with fail
  refine (line_dir2 (by omega) (by omega) _).mono ?_
  rintro e w2 ⟨rfl, hb2⟩
  go_wp2_with fail
  go_ret2
  refine ⟨two_ret ?_ ?_, hb1.trans (hb2.mono hb1.size)⟩
  · simp only [loI, lnI, dX, dY, Int.reduceLT, reduceIte]
    all_goals omega
  · simp only [hiI, lnI, dX, dY, Int.reduceLT, reduceIte]
    all_goals omega
theorem na_dir3 (w : World) : (nilAhead 222 93 (.agg #[]) "loop.example/discretetomography/impl.step").run Try.prog w = .ok (some false) w := by kernel_rfl
theorem me_dir3 (w : World) : (Go.method 222 93 (.agg #[]) "loop.example/discretetomography/impl.step").run Try.prog w = .ok (118, .agg #[]) w := by kernel_rfl
theorem ta_dir3_3 (w : World) : (Instr.typeAssert (.iface 93 (.agg #[])) 65 93 true).run Try.prog w = .ok (.tuple #[.agg #[], .bool true]) w := by kernel_rfl
theorem ta_dir3_6 (w : World) : (Instr.typeAssert (.iface 93 (.agg #[])) 65 96 true).run Try.prog w = .ok (.tuple #[.agg #[], .bool false]) w := by kernel_rfl
theorem ta_dir3_7 (w : World) : (Instr.typeAssert (.iface 93 (.agg #[])) 65 97 true).run Try.prog w = .ok (.tuple #[.agg #[], .bool false]) w := by kernel_rfl
theorem step_dir3 (w : World) : Calls Try.prog 118 #[.agg #[]] w fun e w' => e = .returned (.tuple #[.int .i64 (dX 3), .int .i64 (dY 3)]) ∧ Below w.heap.size w w' := by
  go_enter Try.func118, Try.ntmps118
  go_wp2
  go_ret2
  exact ⟨rfl, (Below.refl _ _).alloc (Nat.le_refl _) _⟩
theorem line_dir3 {i j : Int} (_hi : -100 ≤ i ∧ i ≤ 100) (_hj : -100 ≤ j ∧ j ≤ 100) (w : World) : Calls Try.prog 57 #[.iface 93 (.agg #[]), .int .i64 i, .int .i64 j] w fun e w' => e = .returned (.int .i64 (lnI 3 i j)) ∧ Below w.heap.size w w' := by
  have na := na_dir3
  have me := me_dir3
  go_enter Try.func57, Try.ntmps57
  go_wp2_with fail
  refine (step_dir3 _).mono ?_
  rintro e w1 ⟨rfl, hb⟩
  simp only [dX, dY]
  go_wp2_with fail
  go_ret
  refine ⟨congrArg (fun x => Ending.returned (.int .i64 x)) ?_, hb⟩
  simp only [lnI, dX, dY]
  omega
theorem lines_dir3 {n W : Nat} (hn : 1 ≤ n ∧ n ≤ 90) (hW : 1 ≤ W ∧ W ≤ 90) (w : World) : Calls Try.prog 62 #[.iface 93 (.agg #[]), .int .i64 n, .int .i64 W] w fun e w' => e = .returned (.tuple #[.int .i64 (loI 3 W), .int .i64 (hiI 3 n W)]) ∧ Below w.heap.size w w' := by
  have e1 : (n : Int) + -1 = (n : Int) - 1 := rfl
  have e2 : (W : Int) + -1 = (W : Int) - 1 := rfl
  have t1 := ta_dir3_3
  have t2 := ta_dir3_6
  have t3 := ta_dir3_7
  go_enter Try.func62, Try.ntmps62
  go_wp2_with fail
  refine (line_dir3 (by omega) (by omega) _).mono ?_
  rintro e w1 ⟨rfl, hb1⟩
  go_wp2_with fail
  refine (line_dir3 (by omega) (by omega) _).mono ?_
  rintro e w2 ⟨rfl, hb2⟩
  go_wp2_with fail
  go_ret2
  refine ⟨two_ret ?_ ?_, hb1.trans (hb2.mono hb1.size)⟩
  · simp only [loI, lnI, dX, dY, Int.reduceLT, Int.reduceNeg, reduceIte]
    all_goals omega
  · simp only [hiI, lnI, dX, dY, Int.reduceLT, Int.reduceNeg, reduceIte]
    all_goals omega
theorem na_dir4 (w : World) : (nilAhead 222 94 (.agg #[]) "loop.example/discretetomography/impl.step").run Try.prog w = .ok (some false) w := by kernel_rfl
theorem me_dir4 (w : World) : (Go.method 222 94 (.agg #[]) "loop.example/discretetomography/impl.step").run Try.prog w = .ok (119, .agg #[]) w := by kernel_rfl
theorem ta_dir4_3 (w : World) : (Instr.typeAssert (.iface 94 (.agg #[])) 65 93 true).run Try.prog w = .ok (.tuple #[.agg #[], .bool false]) w := by kernel_rfl
theorem ta_dir4_6 (w : World) : (Instr.typeAssert (.iface 94 (.agg #[])) 65 96 true).run Try.prog w = .ok (.tuple #[.agg #[], .bool false]) w := by kernel_rfl
theorem ta_dir4_7 (w : World) : (Instr.typeAssert (.iface 94 (.agg #[])) 65 97 true).run Try.prog w = .ok (.tuple #[.agg #[], .bool false]) w := by kernel_rfl
theorem step_dir4 (w : World) : Calls Try.prog 119 #[.agg #[]] w fun e w' => e = .returned (.tuple #[.int .i64 (dX 4), .int .i64 (dY 4)]) ∧ Below w.heap.size w w' := by
  go_enter Try.func119, Try.ntmps119
  go_wp2
  go_ret2
  exact ⟨rfl, (Below.refl _ _).alloc (Nat.le_refl _) _⟩
theorem line_dir4 {i j : Int} (_hi : -100 ≤ i ∧ i ≤ 100) (_hj : -100 ≤ j ∧ j ≤ 100) (w : World) : Calls Try.prog 57 #[.iface 94 (.agg #[]), .int .i64 i, .int .i64 j] w fun e w' => e = .returned (.int .i64 (lnI 4 i j)) ∧ Below w.heap.size w w' := by
  have na := na_dir4
  have me := me_dir4
  go_enter Try.func57, Try.ntmps57
  go_wp2_with fail
  refine (step_dir4 _).mono ?_
  rintro e w1 ⟨rfl, hb⟩
  simp only [dX, dY]
  go_wp2_with fail
  go_ret
  refine ⟨congrArg (fun x => Ending.returned (.int .i64 x)) ?_, hb⟩
  simp only [lnI, dX, dY]
  omega
theorem lines_dir4 {n W : Nat} (hn : 1 ≤ n ∧ n ≤ 90) (hW : 1 ≤ W ∧ W ≤ 90) (w : World) : Calls Try.prog 62 #[.iface 94 (.agg #[]), .int .i64 n, .int .i64 W] w fun e w' => e = .returned (.tuple #[.int .i64 (loI 4 W), .int .i64 (hiI 4 n W)]) ∧ Below w.heap.size w w' := by
  have e1 : (n : Int) + -1 = (n : Int) - 1 := rfl
  have e2 : (W : Int) + -1 = (W : Int) - 1 := rfl
  have t1 := ta_dir4_3
  have t2 := ta_dir4_6
  have t3 := ta_dir4_7
  go_enter Try.func62, Try.ntmps62
  go_wp2_with fail
  refine (line_dir4 (by omega) (by omega) _).mono ?_
  rintro e w1 ⟨rfl, hb1⟩
  go_wp2_with fail
  refine (line_dir4 (by omega) (by omega) _).mono ?_
  rintro e w2 ⟨rfl, hb2⟩
  go_wp2_with fail
  go_ret2
  refine ⟨two_ret ?_ ?_, hb1.trans (hb2.mono hb1.size)⟩
  · simp only [loI, lnI, dX, dY, Int.reduceLT, reduceIte]
    all_goals omega
  · simp only [hiI, lnI, dX, dY, Int.reduceLT, reduceIte]
    all_goals omega
theorem na_dir5 (w : World) : (nilAhead 222 95 (.agg #[]) "loop.example/discretetomography/impl.step").run Try.prog w = .ok (some false) w := by kernel_rfl
theorem me_dir5 (w : World) : (Go.method 222 95 (.agg #[]) "loop.example/discretetomography/impl.step").run Try.prog w = .ok (120, .agg #[]) w := by kernel_rfl
theorem ta_dir5_3 (w : World) : (Instr.typeAssert (.iface 95 (.agg #[])) 65 93 true).run Try.prog w = .ok (.tuple #[.agg #[], .bool false]) w := by kernel_rfl
theorem ta_dir5_6 (w : World) : (Instr.typeAssert (.iface 95 (.agg #[])) 65 96 true).run Try.prog w = .ok (.tuple #[.agg #[], .bool false]) w := by kernel_rfl
theorem ta_dir5_7 (w : World) : (Instr.typeAssert (.iface 95 (.agg #[])) 65 97 true).run Try.prog w = .ok (.tuple #[.agg #[], .bool false]) w := by kernel_rfl
theorem step_dir5 (w : World) : Calls Try.prog 120 #[.agg #[]] w fun e w' => e = .returned (.tuple #[.int .i64 (dX 5), .int .i64 (dY 5)]) ∧ Below w.heap.size w w' := by
  go_enter Try.func120, Try.ntmps120
  go_wp2
  go_ret2
  exact ⟨rfl, (Below.refl _ _).alloc (Nat.le_refl _) _⟩
theorem line_dir5 {i j : Int} (_hi : -100 ≤ i ∧ i ≤ 100) (_hj : -100 ≤ j ∧ j ≤ 100) (w : World) : Calls Try.prog 57 #[.iface 95 (.agg #[]), .int .i64 i, .int .i64 j] w fun e w' => e = .returned (.int .i64 (lnI 5 i j)) ∧ Below w.heap.size w w' := by
  have na := na_dir5
  have me := me_dir5
  go_enter Try.func57, Try.ntmps57
  go_wp2_with fail
  refine (step_dir5 _).mono ?_
  rintro e w1 ⟨rfl, hb⟩
  simp only [dX, dY]
  go_wp2_with fail
  go_ret
  refine ⟨congrArg (fun x => Ending.returned (.int .i64 x)) ?_, hb⟩
  simp only [lnI, dX, dY]
  omega
theorem lines_dir5 {n W : Nat} (hn : 1 ≤ n ∧ n ≤ 90) (hW : 1 ≤ W ∧ W ≤ 90) (w : World) : Calls Try.prog 62 #[.iface 95 (.agg #[]), .int .i64 n, .int .i64 W] w fun e w' => e = .returned (.tuple #[.int .i64 (loI 5 W), .int .i64 (hiI 5 n W)]) ∧ Below w.heap.size w w' := by
  have e1 : (n : Int) + -1 = (n : Int) - 1 := rfl
  have e2 : (W : Int) + -1 = (W : Int) - 1 := rfl
  have t1 := ta_dir5_3
  have t2 := ta_dir5_6
  have t3 := ta_dir5_7
  go_enter Try.func62, Try.ntmps62
  go_wp2_with fail
  refine (line_dir5 (by omega) (by omega) _).mono ?_
  rintro e w1 ⟨rfl, hb1⟩
  go_wp2_with fail
  refine (line_dir5 (by omega) (by omega) _).mono ?_
  rintro e w2 ⟨rfl, hb2⟩
  go_wp2_with fail
  go_ret2
  refine ⟨two_ret ?_ ?_, hb1.trans (hb2.mono hb1.size)⟩
  · simp only [loI, lnI, dX, dY, Int.reduceLT, reduceIte]
    all_goals omega
  · simp only [hiI, lnI, dX, dY, Int.reduceLT, reduceIte]
    all_goals omega
theorem na_dir6 (w : World) : (nilAhead 222 96 (.agg #[]) "loop.example/discretetomography/impl.step").run Try.prog w = .ok (some false) w := by kernel_rfl
theorem me_dir6 (w : World) : (Go.method 222 96 (.agg #[]) "loop.example/discretetomography/impl.step").run Try.prog w = .ok (121, .agg #[]) w := by kernel_rfl
theorem ta_dir6_3 (w : World) : (Instr.typeAssert (.iface 96 (.agg #[])) 65 93 true).run Try.prog w = .ok (.tuple #[.agg #[], .bool false]) w := by kernel_rfl
theorem ta_dir6_6 (w : World) : (Instr.typeAssert (.iface 96 (.agg #[])) 65 96 true).run Try.prog w = .ok (.tuple #[.agg #[], .bool true]) w := by kernel_rfl
theorem ta_dir6_7 (w : World) : (Instr.typeAssert (.iface 96 (.agg #[])) 65 97 true).run Try.prog w = .ok (.tuple #[.agg #[], .bool false]) w := by kernel_rfl
theorem step_dir6 (w : World) : Calls Try.prog 121 #[.agg #[]] w fun e w' => e = .returned (.tuple #[.int .i64 (dX 6), .int .i64 (dY 6)]) ∧ Below w.heap.size w w' := by
  go_enter Try.func121, Try.ntmps121
  go_wp2
  go_ret2
  exact ⟨rfl, (Below.refl _ _).alloc (Nat.le_refl _) _⟩
theorem line_dir6 {i j : Int} (_hi : -100 ≤ i ∧ i ≤ 100) (_hj : -100 ≤ j ∧ j ≤ 100) (w : World) : Calls Try.prog 57 #[.iface 96 (.agg #[]), .int .i64 i, .int .i64 j] w fun e w' => e = .returned (.int .i64 (lnI 6 i j)) ∧ Below w.heap.size w w' := by
  have na := na_dir6
  have me := me_dir6
  go_enter Try.func57, Try.ntmps57
  go_wp2_with fail
  refine (step_dir6 _).mono ?_
  rintro e w1 ⟨rfl, hb⟩
  simp only [dX, dY]
  go_wp2_with fail
  go_ret
  refine ⟨congrArg (fun x => Ending.returned (.int .i64 x)) ?_, hb⟩
  simp only [lnI, dX, dY]
  omega
theorem lines_dir6 {n W : Nat} (hn : 1 ≤ n ∧ n ≤ 90) (hW : 1 ≤ W ∧ W ≤ 90) (w : World) : Calls Try.prog 62 #[.iface 96 (.agg #[]), .int .i64 n, .int .i64 W] w fun e w' => e = .returned (.tuple #[.int .i64 (loI 6 W), .int .i64 (hiI 6 n W)]) ∧ Below w.heap.size w w' := by
  have e1 : (n : Int) + -1 = (n : Int) - 1 := rfl
  have e2 : (W : Int) + -1 = (W : Int) - 1 := rfl
  have t1 := ta_dir6_3
  have t2 := ta_dir6_6
  have t3 := ta_dir6_7
  go_enter Try.func62, Try.ntmps62
  go_wp2_with fail
  refine (line_dir6 (by omega) (by omega) _).mono ?_
  rintro e w1 ⟨rfl, hb1⟩
  go_wp2_with fail
  refine (line_dir6 (by omega) (by omega) _).mono ?_
  rintro e w2 ⟨rfl, hb2⟩
  go_wp2_with fail
  go_ret2
  refine ⟨two_ret ?_ ?_, hb1.trans (hb2.mono hb1.size)⟩
  · simp only [loI, lnI, dX, dY, Int.reduceLT, Int.reduceNeg, reduceIte]
    all_goals omega
  · simp only [hiI, lnI, dX, dY, Int.reduceLT, Int.reduceNeg, reduceIte]
    all_goals omega
theorem na_dir7 (w : World) : (nilAhead 222 97 (.agg #[]) "loop.example/discretetomography/impl.step").run Try.prog w = .ok (some false) w := by kernel_rfl
theorem me_dir7 (w : World) : (Go.method 222 97 (.agg #[]) "loop.example/discretetomography/impl.step").run Try.prog w = .ok (122, .agg #[]) w := by kernel_rfl
theorem ta_dir7_3 (w : World) : (Instr.typeAssert (.iface 97 (.agg #[])) 65 93 true).run Try.prog w = .ok (.tuple #[.agg #[], .bool false]) w := by kernel_rfl
theorem ta_dir7_6 (w : World) : (Instr.typeAssert (.iface 97 (.agg #[])) 65 96 true).run Try.prog w = .ok (.tuple #[.agg #[], .bool false]) w := by kernel_rfl
theorem ta_dir7_7 (w : World) : (Instr.typeAssert (.iface 97 (.agg #[])) 65 97 true).run Try.prog w = .ok (.tuple #[.agg #[], .bool true]) w := by kernel_rfl
theorem step_dir7 (w : World) : Calls Try.prog 122 #[.agg #[]] w fun e w' => e = .returned (.tuple #[.int .i64 (dX 7), .int .i64 (dY 7)]) ∧ Below w.heap.size w w' := by
  go_enter Try.func122, Try.ntmps122
  go_wp2
  go_ret2
  exact ⟨rfl, (Below.refl _ _).alloc (Nat.le_refl _) _⟩
theorem line_dir7 {i j : Int} (_hi : -100 ≤ i ∧ i ≤ 100) (_hj : -100 ≤ j ∧ j ≤ 100) (w : World) : Calls Try.prog 57 #[.iface 97 (.agg #[]), .int .i64 i, .int .i64 j] w fun e w' => e = .returned (.int .i64 (lnI 7 i j)) ∧ Below w.heap.size w w' := by
  have na := na_dir7
  have me := me_dir7
  go_enter Try.func57, Try.ntmps57
  go_wp2_with fail
  refine (step_dir7 _).mono ?_
  rintro e w1 ⟨rfl, hb⟩
  simp only [dX, dY]
  go_wp2_with fail
  go_ret
  refine ⟨congrArg (fun x => Ending.returned (.int .i64 x)) ?_, hb⟩
  simp only [lnI, dX, dY]
  omega
theorem lines_dir7 {n W : Nat} (hn : 1 ≤ n ∧ n ≤ 90) (hW : 1 ≤ W ∧ W ≤ 90) (w : World) : Calls Try.prog 62 #[.iface 97 (.agg #[]), .int .i64 n, .int .i64 W] w fun e w' => e = .returned (.tuple #[.int .i64 (loI 7 W), .int .i64 (hiI 7 n W)]) ∧ Below w.heap.size w w' := by
  have e1 : (n : Int) + -1 = (n : Int) - 1 := rfl
  have e2 : (W : Int) + -1 = (W : Int) - 1 := rfl
  have t1 := ta_dir7_3
  have t2 := ta_dir7_6
  have t3 := ta_dir7_7
  go_enter Try.func62, Try.ntmps62
  go_wp2_with fail
  refine (line_dir7 (by omega) (by omega) _).mono ?_
  rintro e w1 ⟨rfl, hb1⟩
  go_wp2_with fail
  refine (line_dir7 (by omega) (by omega) _).mono ?_
  rintro e w2 ⟨rfl, hb2⟩
  go_wp2_with fail
  go_ret2
  refine ⟨two_ret ?_ ?_, hb1.trans (hb2.mono hb1.size)⟩
  · simp only [loI, lnI, dX, dY, Int.reduceLT, Int.reduceNeg, reduceIte]
    all_goals omega
  · simp only [hiI, lnI, dX, dY, Int.reduceLT, Int.reduceNeg, reduceIte]
    all_goals omega
theorem line_impl {d : Nat} (hd : d < 8) {i j : Int} (hi : -100 ≤ i ∧ i ≤ 100) (hj : -100 ≤ j ∧ j ≤ 100) (w : World) : Calls Try.prog 57 #[dirV d, .int .i64 i, .int .i64 j] w fun e w' => e = .returned (.int .i64 (lnI d i j)) ∧ Below w.heap.size w w' := by
  refine dir_all (P := fun d => Calls Try.prog 57 #[dirV d, .int .i64 i, .int .i64 j] w fun e w' => e = .returned (.int .i64 (lnI d i j)) ∧ Below w.heap.size w w') ?_ ?_ ?_ ?_ ?_ ?_ ?_ ?_ hd
  · exact line_dir0 hi hj w
  · exact line_dir1 hi hj w
  · exact line_dir2 hi hj w
  · exact line_dir3 hi hj w
  · exact line_dir4 hi hj w
  · exact line_dir5 hi hj w
  · exact line_dir6 hi hj w
  · exact line_dir7 hi hj w
theorem lines_impl {d : Nat} (hd : d < 8) {n W : Nat} (hn : 1 ≤ n ∧ n ≤ 90) (hW : 1 ≤ W ∧ W ≤ 90) (w : World) : Calls Try.prog 62 #[dirV d, .int .i64 n, .int .i64 W] w fun e w' => e = .returned (.tuple #[.int .i64 (loI d W), .int .i64 (hiI d n W)]) ∧ Below w.heap.size w w' := by
  refine dir_all (P := fun d => Calls Try.prog 62 #[dirV d, .int .i64 n, .int .i64 W] w fun e w' => e = .returned (.tuple #[.int .i64 (loI d W), .int .i64 (hiI d n W)]) ∧ Below w.heap.size w w') ?_ ?_ ?_ ?_ ?_ ?_ ?_ ?_ hd
  · exact lines_dir0 hn hW w
  · exact lines_dir1 hn hW w
  · exact lines_dir2 hn hW w
  · exact lines_dir3 hn hW w
  · exact lines_dir4 hn hW w
  · exact lines_dir5 hn hW w
  · exact lines_dir6 hn hW w
  · exact lines_dir7 hn hW w

/-- Which direction, if there is one. -/
def dirOut (d : Int) : Value := if 0 ≤ d ∧ d ≤ 7 then .tuple #[dirV d.toNat, .bool true] else .tuple #[.nilIface, .bool false]
theorem dirOf_no {d : Int} (h : ¬ (0 ≤ d ∧ d ≤ 7)) (w : World) : Calls Try.prog 53 #[.int .i64 d] w fun e w' => e = .returned (.tuple #[.nilIface, .bool false]) ∧ w = w' := by
  by_cases h0 : d < 0
  · go_enter Try.func53, Try.ntmps53
    go_wp2_with fail
    go_ret2
    exact ⟨rfl, rfl⟩
  · have h8 : 8 ≤ d := by omega
    go_enter Try.func53, Try.ntmps53
    go_wp2_with fail
    go_ret2
    exact ⟨rfl, rfl⟩
theorem dirOf_0 (w : World) : Calls Try.prog 53 #[.int .i64 0] w fun e w' => e = .returned (.tuple #[dirV 0, .bool true]) ∧ Below w.heap.size w w' := by
  go_enter Try.func53, Try.ntmps53
  go_wp2_with fail
  go_ret2
  exact ⟨rfl, (Below.refl _ _).alloc (Nat.le_refl _) _⟩
theorem dirOf_1 (w : World) : Calls Try.prog 53 #[.int .i64 1] w fun e w' => e = .returned (.tuple #[dirV 1, .bool true]) ∧ Below w.heap.size w w' := by
  go_enter Try.func53, Try.ntmps53
  go_wp2_with fail
  go_ret2
  exact ⟨rfl, (Below.refl _ _).alloc (Nat.le_refl _) _⟩
theorem dirOf_2 (w : World) : Calls Try.prog 53 #[.int .i64 2] w fun e w' => e = .returned (.tuple #[dirV 2, .bool true]) ∧ Below w.heap.size w w' := by
  go_enter Try.func53, Try.ntmps53
  go_wp2_with fail
  go_ret2
  exact ⟨rfl, (Below.refl _ _).alloc (Nat.le_refl _) _⟩
theorem dirOf_3 (w : World) : Calls Try.prog 53 #[.int .i64 3] w fun e w' => e = .returned (.tuple #[dirV 3, .bool true]) ∧ Below w.heap.size w w' := by
  go_enter Try.func53, Try.ntmps53
  go_wp2_with fail
  go_ret2
  exact ⟨rfl, (Below.refl _ _).alloc (Nat.le_refl _) _⟩
theorem dirOf_4 (w : World) : Calls Try.prog 53 #[.int .i64 4] w fun e w' => e = .returned (.tuple #[dirV 4, .bool true]) ∧ Below w.heap.size w w' := by
  go_enter Try.func53, Try.ntmps53
  go_wp2_with fail
  go_ret2
  exact ⟨rfl, (Below.refl _ _).alloc (Nat.le_refl _) _⟩
theorem dirOf_5 (w : World) : Calls Try.prog 53 #[.int .i64 5] w fun e w' => e = .returned (.tuple #[dirV 5, .bool true]) ∧ Below w.heap.size w w' := by
  go_enter Try.func53, Try.ntmps53
  go_wp2_with fail
  go_ret2
  exact ⟨rfl, (Below.refl _ _).alloc (Nat.le_refl _) _⟩
theorem dirOf_6 (w : World) : Calls Try.prog 53 #[.int .i64 6] w fun e w' => e = .returned (.tuple #[dirV 6, .bool true]) ∧ Below w.heap.size w w' := by
  go_enter Try.func53, Try.ntmps53
  go_wp2_with fail
  go_ret2
  exact ⟨rfl, (Below.refl _ _).alloc (Nat.le_refl _) _⟩
theorem dirOf_7 (w : World) : Calls Try.prog 53 #[.int .i64 7] w fun e w' => e = .returned (.tuple #[dirV 7, .bool true]) ∧ Below w.heap.size w w' := by
  go_enter Try.func53, Try.ntmps53
  go_wp2_with fail
  go_ret2
  exact ⟨rfl, (Below.refl _ _).alloc (Nat.le_refl _) _⟩
theorem dirOf_impl {d : Nat} (hd : d < 8) (w : World) : Calls Try.prog 53 #[.int .i64 d] w fun e w' => e = .returned (.tuple #[dirV d, .bool true]) ∧ Below w.heap.size w w' := by
  refine dir_all (P := fun d => Calls Try.prog 53 #[.int .i64 (d : Nat)] w fun e w' => e = .returned (.tuple #[dirV d, .bool true]) ∧ Below w.heap.size w w') ?_ ?_ ?_ ?_ ?_ ?_ ?_ ?_ hd
  · exact dirOf_0 w
  · exact dirOf_1 w
  · exact dirOf_2 w
  · exact dirOf_3 w
  · exact dirOf_4 w
  · exact dirOf_5 w
  · exact dirOf_6 w
  · exact dirOf_7 w
end Go.Proofs.Ytemmfnlnhekclaa

