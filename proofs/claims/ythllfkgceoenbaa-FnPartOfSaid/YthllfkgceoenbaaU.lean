/-
  The contract of the program's ImagePut.
-/
import Derived.Test.YthllfkgceoenbaaT
namespace Go.Proofs.Ythllfkgceoenbaa
open Go.RowKit

theorem keep_of {w1 W' : World} {p0 p1 : Addr} {u0 u1 : Value} {b off len : Nat} {xs : List Int} (x0 : w1.cell? p0 = some u0) (x1 : w1.cell? p1 = some u1) (hr : ∀ i, i < len → w1.cell? ⟨b, off + i, none⟩ = some (.int .i64 (xs.getD i 0))) (hb : Below w1.heap.size w1 W') :
    W'.cell? p0 = some u0 ∧ W'.cell? p1 = some u1 ∧ (∀ i, i < len → W'.cell? ⟨b, off + i, none⟩ = some (.int .i64 (xs.getD i 0))) :=
  ⟨kept hb (block_lt x0) x0, kept hb (block_lt x1) x1, fun i hi => kept hb (block_lt (hr i hi)) (hr i hi)⟩

theorem wrap_pow : ∀ j, j < 6 → wrap64 (2 ^ j) = pw j ∧ IntKind.i64.wrap (2 ^ j) = pw j := by decide +kernel
end Go.Proofs.Ythllfkgceoenbaa

