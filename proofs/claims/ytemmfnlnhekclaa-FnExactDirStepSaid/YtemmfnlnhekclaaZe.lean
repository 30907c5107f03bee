/-
  The program's DirStep, DirLine, DirLines.
-/
import Derived.Test.YtemmfnlnhekclaaZc
namespace Go.Proofs.Ytemmfnlnhekclaa
set_option maxRecDepth 100000
open Go.RowKit

theorem dstep_no {d : Int} (h : ¬ (0 ≤ d ∧ d ≤ 7)) (w : World) : Calls Try.prog 20 #[.int .i64 d] w fun e w' => e = .returned (.tuple #[.int .i64 0, .int .i64 0, .bool false]) ∧ Below w.heap.size w w' := by
  have c := Lib.hid (dirOf_no h w)
  clear h
  go_enter Try.func20, Try.ntmps20
  go_wp2_with fail
  refine c.out.mono ?_
  rintro e w1 ⟨rfl, rfl⟩
  go_wp2_with fail
  go_ret3
  exact ⟨rfl, Below.refl _ _⟩
theorem dstep_0 (w : World) : Calls Try.prog 20 #[.int .i64 0] w fun e w' => e = .returned (.tuple #[.int .i64 (dX 0), .int .i64 (dY 0), .bool true]) ∧ Below w.heap.size w w' := by
  have na := na_dir0
  have me := me_dir0
  go_enter Try.func20, Try.ntmps20
  go_wp2_with fail
  refine (dirOf_0 _).mono ?_
  rintro e w1 ⟨rfl, hb⟩
  simp only [dirV]
  go_wp2_with fail
  refine (step_dir0 _).mono ?_
  rintro e w2 ⟨rfl, hb2⟩
  simp only [dX, dY]
  go_wp2_with fail
  go_ret3
  exact ⟨rfl, hb.trans (hb2.mono hb.size)⟩
theorem dstep_1 (w : World) : Calls Try.prog 20 #[.int .i64 1] w fun e w' => e = .returned (.tuple #[.int .i64 (dX 1), .int .i64 (dY 1), .bool true]) ∧ Below w.heap.size w w' := by
  have na := na_dir1
  have me := me_dir1
  go_enter Try.func20, Try.ntmps20
  go_wp2_with fail
  refine (dirOf_1 _).mono ?_
  rintro e w1 ⟨rfl, hb⟩
  simp only [dirV]
  go_wp2_with fail
  refine (step_dir1 _).mono ?_
  rintro e w2 ⟨rfl, hb2⟩
  simp only [dX, dY]
  go_wp2_with fail
  go_ret3
  exact ⟨rfl, hb.trans (hb2.mono hb.size)⟩
theorem dstep_2 (w : World) : Calls Try.prog 20 #[.int .i64 2] w fun e w' => e = .returned (.tuple #[.int .i64 (dX 2), .int .i64 (dY 2), .bool true]) ∧ Below w.heap.size w w' := by
  have na := na_dir2
  have me := me_dir2
  go_enter Try.func20, Try.ntmps20
  go_wp2_with fail
  refine (dirOf_2 _).mono ?_
  rintro e w1 ⟨rfl, hb⟩
  simp only [dirV]
  go_wp2_with fail
  refine (step_dir2 _).mono ?_
  rintro e w2 ⟨rfl, hb2⟩
  simp only [dX, dY]
  go_wp2_with fail
  go_ret3
  exact ⟨rfl, hb.trans (hb2.mono hb.size)⟩
theorem dstep_3 (w : World) : Calls Try.prog 20 #[.int .i64 3] w fun e w' => e = .returned (.tuple #[.int .i64 (dX 3), .int .i64 (dY 3), .bool true]) ∧ Below w.heap.size w w' := by
  have na := na_dir3
  have me := me_dir3
  go_enter Try.func20, Try.ntmps20
  go_wp2_with fail
  refine (dirOf_3 _).mono ?_
  rintro e w1 ⟨rfl, hb⟩
  simp only [dirV]
  go_wp2_with fail
  refine (step_dir3 _).mono ?_
  rintro e w2 ⟨rfl, hb2⟩
  simp only [dX, dY]
  go_wp2_with fail
  go_ret3
  exact ⟨rfl, hb.trans (hb2.mono hb.size)⟩
theorem dstep_4 (w : World) : Calls Try.prog 20 #[.int .i64 4] w fun e w' => e = .returned (.tuple #[.int .i64 (dX 4), .int .i64 (dY 4), .bool true]) ∧ Below w.heap.size w w' := by
  have na := na_dir4
  have me := me_dir4
  go_enter Try.func20, Try.ntmps20
  go_wp2_with fail
  refine (dirOf_4 _).mono ?_
  rintro e w1 ⟨rfl, hb⟩
  simp only [dirV]
  go_wp2_with fail
  refine (step_dir4 _).mono ?_
  rintro e w2 ⟨rfl, hb2⟩
  simp only [dX, dY]
  go_wp2_with fail
  go_ret3
  exact ⟨rfl, hb.trans (hb2.mono hb.size)⟩
theorem dstep_5 (w : World) : Calls Try.prog 20 #[.int .i64 5] w fun e w' => e = .returned (.tuple #[.int .i64 (dX 5), .int .i64 (dY 5), .bool true]) ∧ Below w.heap.size w w' := by
  have na := na_dir5
  have me := me_dir5
  go_enter Try.func20, Try.ntmps20
  go_wp2_with fail
  refine (dirOf_5 _).mono ?_
  rintro e w1 ⟨rfl, hb⟩
  simp only [dirV]
  go_wp2_with fail
  refine (step_dir5 _).mono ?_
  rintro e w2 ⟨rfl, hb2⟩
  simp only [dX, dY]
  go_wp2_with fail
  go_ret3
  exact ⟨rfl, hb.trans (hb2.mono hb.size)⟩
theorem dstep_6 (w : World) : Calls Try.prog 20 #[.int .i64 6] w fun e w' => e = .returned (.tuple #[.int .i64 (dX 6), .int .i64 (dY 6), .bool true]) ∧ Below w.heap.size w w' := by
  have na := na_dir6
  have me := me_dir6
  go_enter Try.func20, Try.ntmps20
  go_wp2_with fail
  refine (dirOf_6 _).mono ?_
  rintro e w1 ⟨rfl, hb⟩
  simp only [dirV]
  go_wp2_with fail
  refine (step_dir6 _).mono ?_
  rintro e w2 ⟨rfl, hb2⟩
  simp only [dX, dY]
  go_wp2_with fail
  go_ret3
  exact ⟨rfl, hb.trans (hb2.mono hb.size)⟩
theorem dstep_7 (w : World) : Calls Try.prog 20 #[.int .i64 7] w fun e w' => e = .returned (.tuple #[.int .i64 (dX 7), .int .i64 (dY 7), .bool true]) ∧ Below w.heap.size w w' := by
  have na := na_dir7
  have me := me_dir7
  go_enter Try.func20, Try.ntmps20
  go_wp2_with fail
  refine (dirOf_7 _).mono ?_
  rintro e w1 ⟨rfl, hb⟩
  simp only [dirV]
  go_wp2_with fail
  refine (step_dir7 _).mono ?_
  rintro e w2 ⟨rfl, hb2⟩
  simp only [dX, dY]
  go_wp2_with fail
  go_ret3
  exact ⟨rfl, hb.trans (hb2.mono hb.size)⟩
theorem dstep_ok {d : Nat} (hd : d < 8) (w : World) : Calls Try.prog 20 #[.int .i64 d] w fun e w' => e = .returned (.tuple #[.int .i64 (dX d), .int .i64 (dY d), .bool true]) ∧ Below w.heap.size w w' := by
  refine dir_all (P := fun d => Calls Try.prog 20 #[.int .i64 (d : Nat)] w fun e w' => e = .returned (.tuple #[.int .i64 (dX d), .int .i64 (dY d), .bool true]) ∧ Below w.heap.size w w') ?_ ?_ ?_ ?_ ?_ ?_ ?_ ?_ hd
  · exact dstep_0 w
  · exact dstep_1 w
  · exact dstep_2 w
  · exact dstep_3 w
  · exact dstep_4 w
  · exact dstep_5 w
  · exact dstep_6 w
  · exact dstep_7 w

theorem dline_no {d i j : Int} (h : ¬ ((0 ≤ d ∧ d ≤ 7) ∧ (0 ≤ i ∧ i ≤ 5) ∧ (0 ≤ j ∧ j ≤ 5))) (w : World) : Calls Try.prog 22 #[.int .i64 d, .int .i64 i, .int .i64 j] w fun e w' => e = .returned (.tuple #[.int .i64 0, .bool false]) ∧ Below w.heap.size w w' := by
  by_cases hd : 0 ≤ d ∧ d ≤ 7
  case neg =>
    have c := Lib.hid (dirOf_no hd w)
    clear h hd
    go_enter Try.func22, Try.ntmps22
    go_wp2_with fail
    refine c.out.mono ?_
    rintro e w1 ⟨rfl, rfl⟩
    go_wp2_with fail
    go_ret2
    exact ⟨rfl, Below.refl _ _⟩
  obtain ⟨d, rfl⟩ := Int.eq_ofNat_of_zero_le hd.1
  have c := Lib.hid (dirOf_impl (d := d) (by omega) w)
  generalize dirV d = D at c
  by_cases h1 : i < 0
  rotate_left
  · by_cases h2 : 5 < i
    rotate_left
    · by_cases h3 : j < 0
      rotate_left
      · have h4 : 5 < j := by omega
        clear h
        go_enter Try.func22, Try.ntmps22
        go_wp2_with fail
        refine c.out.mono ?_
        rintro e w1 ⟨rfl, hb⟩
        go_wp2_with fail
        go_ret2
        exact ⟨rfl, hb⟩
      · have g1 : ¬ 6 ≤ i := by omega
        clear h
        go_enter Try.func22, Try.ntmps22
        go_wp2_with fail
        refine c.out.mono ?_
        rintro e w1 ⟨rfl, hb⟩
        go_wp2_with fail
        go_ret2
        exact ⟨rfl, hb⟩
    · clear h
      go_enter Try.func22, Try.ntmps22
      go_wp2_with fail
      refine c.out.mono ?_
      rintro e w1 ⟨rfl, hb⟩
      go_wp2_with fail
      go_ret2
      exact ⟨rfl, hb⟩
  · clear h
    go_enter Try.func22, Try.ntmps22
    go_wp2_with fail
    refine c.out.mono ?_
    rintro e w1 ⟨rfl, hb⟩
    go_wp2_with fail
    go_ret2
    exact ⟨rfl, hb⟩
theorem dline_ok {d i j : Nat} (hd : d < 8) (hi : i < 6) (hj : j < 6) (w : World) : Calls Try.prog 22 #[.int .i64 d, .int .i64 i, .int .i64 j] w fun e w' => e = .returned (.tuple #[.int .i64 (lnI d i j), .bool true]) ∧ Below w.heap.size w w' := by
  have c := Lib.hid (dirOf_impl hd w)
  have cl : Hid (∀ wx, Calls Try.prog 57 #[dirV d, .int .i64 i, .int .i64 j] wx fun e w' => e = .returned (.int .i64 (lnI d i j)) ∧ Below wx.heap.size wx w') := fun wx => line_impl hd (by omega) (by omega) wx
  generalize dirV d = D at c cl
  generalize lnI d i j = z at cl
  clear hd
  go_enter Try.func22, Try.ntmps22
  go_wp2_with fail
  refine c.out.mono ?_
  rintro e w1 ⟨rfl, hb⟩
  go_wp2_with fail
  refine (cl.out _).mono ?_
  rintro e w2 ⟨rfl, hb2⟩
  go_wp2_with fail
  go_ret2
  exact ⟨rfl, hb.trans (hb2.mono hb.size)⟩
theorem dlines_no {d h l : Int} (hh : ¬ ((0 ≤ d ∧ d ≤ 7) ∧ inB h 1 6 = true ∧ inB l 1 6 = true)) (w : World) : Calls Try.prog 25 #[.int .i64 d, .int .i64 h, .int .i64 l] w fun e w' => e = .returned (.tuple #[.int .i64 0, .int .i64 0, .bool false]) ∧ Below w.heap.size w w' := by
  by_cases hd : 0 ≤ d ∧ d ≤ 7
  case neg =>
    have c := Lib.hid (dirOf_no hd w)
    clear hh hd
    go_enter Try.func25, Try.ntmps25
    go_wp2_with fail
    refine c.out.mono ?_
    rintro e w1 ⟨rfl, rfl⟩
    go_wp2_with fail
    go_ret3
    exact ⟨rfl, Below.refl _ _⟩
  obtain ⟨d, rfl⟩ := Int.eq_ofNat_of_zero_le hd.1
  have c := Lib.hid (dirOf_impl (d := d) (by omega) w)
  generalize dirV d = D at c
  cases h1 : inB h 1 6
  case false =>
    clear hh hd
    go_enter Try.func25, Try.ntmps25
    go_wp2_with fail
    refine c.out.mono ?_
    rintro e w1 ⟨rfl, hb⟩
    go_wp2_with (first | (go_at_call 61; refine (side_any _ _).mono ?_; rintro e w' ⟨rfl, rfl⟩))
    go_ret3
    exact ⟨rfl, hb⟩
  case true =>
    have h2 : inB l 1 6 = false := by
      cases h3 : inB l 1 6
      · rfl
      · exact absurd ⟨hd, h1, h3⟩ hh
    clear hh hd
    go_enter Try.func25, Try.ntmps25
    go_wp2_with fail
    refine c.out.mono ?_
    rintro e w1 ⟨rfl, hb⟩
    go_wp2_with (first | (go_at_call 61; refine (side_any _ _).mono ?_; rintro e w' ⟨rfl, rfl⟩))
    go_ret3
    exact ⟨rfl, hb⟩
theorem dlines_ok {d n W : Nat} (hd : d < 8) (hn : 1 ≤ n ∧ n ≤ 6) (hW : 1 ≤ W ∧ W ≤ 6) (w : World) : Calls Try.prog 25 #[.int .i64 d, .int .i64 n, .int .i64 W] w fun e w' => e = .returned (.tuple #[.int .i64 (loI d W), .int .i64 (hiI d n W), .bool true]) ∧ Below w.heap.size w w' := by
  have c := Lib.hid (dirOf_impl hd w)
  have cl : Hid (∀ wx, Calls Try.prog 62 #[dirV d, .int .i64 n, .int .i64 W] wx fun e w' => e = .returned (.tuple #[.int .i64 (loI d W), .int .i64 (hiI d n W)]) ∧ Below wx.heap.size wx w') := fun wx => lines_impl hd (by omega) (by omega) wx
  have h1 : inB (n : Int) 1 6 = true := inB_yes (by omega) (by omega)
  have h2 : inB (W : Int) 1 6 = true := inB_yes (by omega) (by omega)
  generalize dirV d = D at c cl
  generalize loI d W = lo at cl
  generalize hiI d n W = hi at cl
  clear hd
  go_enter Try.func25, Try.ntmps25
  go_wp2_with fail
  refine c.out.mono ?_
  rintro e w1 ⟨rfl, hb⟩
  go_wp2_with (first | (go_at_call 61; refine (side_any _ _).mono ?_; rintro e w' ⟨rfl, rfl⟩))
  refine (cl.out _).mono ?_
  rintro e w2 ⟨rfl, hb2⟩
  go_wp2_with fail
  go_ret3
  exact ⟨rfl, hb.trans (hb2.mono hb.size)⟩
end Go.Proofs.Ytemmfnlnhekclaa

