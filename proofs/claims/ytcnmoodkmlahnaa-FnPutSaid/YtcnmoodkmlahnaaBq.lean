/-
  A region that draws its order, whose operations read and whose callees may make memory of their own: one walk in the order of the text, in any world that is the first one but for new memory.
-/
import Derived.Test.YtcnmoodkmlahnaaB
import Derived.Deep.QuietTactic
import Derived.BigQuiet
namespace Go.Proofs.Ytcnmoodkmlahnaa
open Go.RowKit

/-- A world that is w but for new memory. -/
structure Bw (w : World) where
  v : World
  h : Below w.heap.size w v
instance (w : World) : Inhabited (Bw w) := ⟨⟨w, Below.refl _ _⟩⟩
theorem wp_region_bw {P : Program} {id : Nat} {Q : Exit → Act → World → Prop} {a : Act} {w : World} {l : List Oper} (hm : P.follows .mixedOrders = true) (hB : Region.lexB .any l.toArray = true)
    (h : wpQuiet P l.toArray (fun w' => ∃ p : Bw w, w' = p.v) (fun a' => ∀ w', (∃ p : Bw w, w' = p.v) → Q .normal a' w') l a) : (Code.region id l.toArray true).wp P Q a w :=
  wp_region_quiet (C := fun w' => ∃ p : Bw w, w' = p.v) hm hB ⟨⟨w.drew, (Below.refl _ _).drew⟩, rfl⟩ (by simpa using h)
theorem bw_of {P : Program} {f : FuncId} {args : Array Value} {w : World} {p : Bw w} {v : Value} (h : Calls P f args p.v fun e w' => e = .returned v ∧ Below p.v.heap.size p.v w') : Calls P f args p.v fun e w'' => e = .returned v ∧ ∃ q : Bw w, w'' = q.v :=
  h.mono fun _ _ ⟨he, hb⟩ => ⟨he, ⟨⟨_, p.h.trans (hb.mono p.h.size)⟩, rfl⟩⟩
theorem bw_cell {w : World} {a : Addr} {v : Value} (h : w.cell? a = some v) (p : Bw w) : p.v.cell? a = some v := kept p.h (block_lt h) h
theorem bw_row {w : World} {a : Option Addr} {n : Nat} {xs : List Int} (h : Row w a n xs) (p : Bw w) : Row p.v a n xs := h.bel p.h
end Go.Proofs.Ytcnmoodkmlahnaa

