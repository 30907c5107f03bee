/-
  What the exact laws of chapter 11 share: a switch that came in, opened; its copy.
-/
import Derived.Test.YtnhcknbbkmaiiaaF
import Derived.Test.YtnhcknbbkmaiiaaKc
import Derived.Test.YtnhcknbbkmaiiaaA
import Derived.Deep.RegionHeld3
namespace Go.Proofs.Ytnhcknbbkmaiiaa
set_option maxRecDepth 100000
open Go.ChangeShapes Go.WideShapes Go.ChangeAt Go.RowKit Go.Joins

theorem cellsSw : Try.prog.cellsOf 101 = 4 := by kernel_rfl
theorem open_sw {H : Type} {enc : TypeId × Value → H} {W : World} {base : Nat} {v : Value} {d : DataW H} {p : List MemPlace}
    (hv : Value.okWide Try.prog W .any base 101 v) (h : DataW.Trod enc Try.prog W 0 (fun _ => true) true 101 v d p) :
    ∃ A B C D, v = .agg #[.int .i64 A, .int .i64 B, .int .i64 C, .int .i64 D] := by
  obtain ⟨c0, c1, c2, c3, y0, y1, y2, y3, m, rfl, rfl, rfl, h0, h1, h2, h3⟩ := open_agg4 Try.underlying101 (by kernel_rfl) cellsSw hv h
  obtain ⟨A, e0, rfl, _⟩ := DataW.trod_int Try.underlying3 h0
  obtain ⟨B, e1, rfl, _⟩ := DataW.trod_int Try.underlying3 h1
  obtain ⟨C, e2, rfl, _⟩ := DataW.trod_int Try.underlying3 h2
  obtain ⟨D, e3, rfl, _⟩ := DataW.trod_int Try.underlying3 h3
  simp at e0 e1 e2 e3
  subst e0 e1 e2 e3
  exact ⟨A, B, C, D, rfl⟩

set_option maxHeartbeats 1000000 in
theorem toSwitch_any (A B C D : Int) (w : World) :
    Calls Try.prog 121 #[.agg #[.int .i64 A, .int .i64 B, .int .i64 C, .int .i64 D]] w fun e w' => e = .returned (.agg #[.int .i64 A, .int .i64 B, .int .i64 C, .int .i64 D]) ∧ Below w.heap.size w w' := by
  go_enter Try.func121, Try.ntmps121
  go_wp2_with fail
  refine bodyPost_ret (v := .agg #[.int .i64 A, .int .i64 B, .int .i64 C, .int .i64 D]) (by simp [results, Try.results121, go_sem]) rfl ?_
  exact ⟨rfl, (((Below.refl _ _).alloc (Nat.le_refl _) _).alloc (by simp) _).alloc (by simp; omega) _⟩
end Go.Proofs.Ytnhcknbbkmaiiaa

