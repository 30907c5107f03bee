/-
  CountAll of both sides in the laws' forms.
-/
import Derived.Test.YtmfncheimmcobaaJy
namespace Go.Proofs.Ytmfncheimmcobaa
set_option maxRecDepth 100000
open Go.RowKit

theorem ca_ok {xs : List Int} {e N : Int} {n : Nat} (h : caO xs e = N) (s : Option Addr) (c : Nat) (w : World) (hR : Row w s n xs) (hn : n ≤ 13) :
    Calls Try.prog 32 #[.slice s n c, .int .i64 e] w fun e' w' => e' = .returned (.int .i64 N) ∧ Below w.heap.size w w' := by
  rw [← h]; exact ca_impl s n c xs e w hR (by omega)
theorem ca_sok {xs : List Int} {e N : Int} {n : Nat} (h : caO xs e = N) (s : Option Addr) (c : Nat) (w : World) (hR : Row w s n xs) (hn : n ≤ 13) :
    Calls Try.prog 33 #[.slice s n c, .int .i64 e] w fun e' w' => e' = .returned (.int .i64 N) ∧ Below w.heap.size w w' := by
  rw [← h]; exact ca_spec s n c xs e w hR (by omega)
end Go.Proofs.Ytmfncheimmcobaa

