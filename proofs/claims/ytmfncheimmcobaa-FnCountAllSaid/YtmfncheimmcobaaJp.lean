/-
  The contract of DrawCountAll.
-/
import Derived.Test.YtmfncheimmcobaaDq
namespace Go.Proofs.Ytmfncheimmcobaa
set_option maxRecDepth 100000
open Go.RowKit

set_option maxHeartbeats 400000 in
theorem draw_DrawCountAll (a : Option Addr) (len cap : Nat) (zs : List Int) (w : World) (h : Bys w a len zs) (hl : len ≤ cap) (hm : cap ≤ 9223372036854775807) :
    Calls Try.prog 31 #[.slice a len cap] w (DrawnN w) := by
  go_enter Try.func31, Try.ntmps31
  go_wp2_with fail
  refine (draw_DrawBuildNested a len cap zs _ h hl hm).mono ?_
  rintro e w1 ⟨aR, n, c, xs, v, rfl, ho, hn, hc, hv, hb⟩
  go_wp2_with fail
  refine bodyPost_ret (v := .tuple #[.slice aR n c, .int .i64 v]) (by simp [results, Try.results31, go_sem]) rfl ?_
  exact ⟨aR, n, c, xs, v, rfl, ho, hn, hc, hv, hb⟩
end Go.Proofs.Ytmfncheimmcobaa

