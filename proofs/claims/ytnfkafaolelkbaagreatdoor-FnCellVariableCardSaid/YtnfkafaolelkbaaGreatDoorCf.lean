/-
  What the frames of the laws share whose road comes to the package's error value: the variable as the program's text lays it.
-/
import Derived.Test.YtnfkafaolelkbaaGreatDoorCe
import Derived.Test.YtnfkafaolelkbaaGreatDoorF
import Derived.Test.YtnfkafaolelkbaaGreatDoorCards
import Derived.Test.YtnfkafaolelkbaaGreatDoorTie
import Derived.LaidMore
import Derived.Stop.LaidErr
import Derived.Stop.Joined
import Derived.ChangeVars
import Derived.SevenTiedAt
namespace Go.Proofs.YtnfkafaolelkbaaGreatDoor
set_option maxRecDepth 100000
open Go.ChangeShapes Go.WideShapes Go.ChangeAt Go.RowKit Go.Joins

abbrev laidE : List (String × DataW Unit) := [("loop.example/discretetomography/impl.errNoImage", Rows.laid_loop_example_discretetomography_impl_errNoImage)]
theorem gE : Tryz.prog.globalNamed "loop.example/discretetomography/impl.errNoImage" = some 0 := by kernel_rfl
theorem gEType : (Tryz.prog.globals[0]?).map (·.type) = some 72 := by kernel_rfl
theorem cellsES : Tryz.prog.cellsOf 185 = 1 := by kernel_rfl
theorem cellsStr : Tryz.prog.cellsOf 9 = 1 := by kernel_rfl
theorem starES : "*" ++ "errors.errorString" = "*errors.errorString" := by decide
theorem rowES (u : TypeId) (h : Tryz.prog.typeName? 3 u = some "*errors.errorString") : u = 161 :=
  typeName_ptr_named (nm := "errors.errorString") (by rw [starES]; kernel_rfl) (by kernel_rfl) (by decide) u (by rw [starES]; exact h)
/-- The start that the program's own text lays meets the condition. -/
theorem door_met (os : Os) (args : Array Value) : laidMetH Tryz.prog laidE ((World.doorLaid Tryz.prog 28 os).forCall (fun _ _ => 0) ⟨#[], args, []⟩).memory :=
  laidMetH_of_parts3 (fuel := 8) (laidMet_of_run' 8 (by kernel_rfl) (by kernel_rfl)) (by kernel_rfl) (by kernel_rfl)
theorem sentinel_of {W : World} (h : laidMetH Tryz.prog laidE W) :
    ∃ a : Addr, W.var? Tryz.prog "loop.example/discretetomography/impl.errNoImage" = some #[errV a] ∧ W.cell? ⟨0, 0, none⟩ = some (errV a) := by
  rw [MakeChecks.laidMetH_plain _ _ _ (by kernel_rfl)] at h
  obtain ⟨a0, s0, hv0, _, _, _⟩ := laid_sentinel h gE gEType Tryz.underlying72 rowES Tryz.underlying161 Tryz.underlying185 rfl rfl Tryz.underlying9 cellsES cellsStr
  exact ⟨a0, hv0, by simpa using World.var?_cell gE hv0 0⟩
theorem var_bel {P : Program} {W W' : World} {n : String} {cs : Array Value} (hb : Below W.heap.size W W') (h : W.var? P n = some cs) : W'.var? P n = some cs := by
  unfold World.var? at h ⊢
  cases hg : P.globalNamed n with
  | none => simp [hg] at h
  | some g =>
    simp only [hg, Option.bind_some] at h ⊢
    have hlt : g < W.heap.size := by
      rcases Nat.lt_or_ge g W.heap.size with h' | h'
      · exact h'
      · simp [Array.getElem?_eq_none h'] at h
    rw [hb.block g hlt]
    exact h
theorem looksOk : true = Tryz.prog.looks [] := by kernel_rfl
theorem wantsCode : Tryz.prog.wantsStandIn 22 = false := by kernel_rfl
theorem wantsInts : Tryz.prog.wantsStandIn 23 = false := by kernel_rfl
end Go.Proofs.YtnfkafaolelkbaaGreatDoor

