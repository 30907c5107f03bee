/-
  The contracts of ImageSorted in the forms that the laws ask for.
-/
import Derived.Test.YtnhcknbbkmaiiaaGreatDoorNp
import Derived.Test.YtnhcknbbkmaiiaaGreatDoorEp
namespace Go.Proofs.YtnhcknbbkmaiiaaGreatDoor
set_option maxRecDepth 100000
open Go.RowKit

variable {W n : Nat} {V : Int} {xs ys : List Int}
theorem srt_ok (hI : Im W n xs) {L : List Int} (hL : sortI xs W n = L) (s : Option Addr) (cg : Nat) (w : World) (hR : Row w s n xs) :
    Calls Tryz.prog 27 #[.agg #[.int .i64 W, .slice s n cg]] w (GivesI w W n L) := by
  have h := sorted_impl (W : Int) s n cg xs w hR (by have := hI.l6; omega)
  rw [sorto_im hI, hL] at h
  exact h.mono fun _ _ hh => hh.ok (by rw [← hL]; exact (sorti_im hI).hl)
theorem srt_sok (hI : Im W n xs) {L : List Int} (hL : sortI xs W n = L) (s : Option Addr) (cg : Nat) (w : World) (hR : Row w s n xs) :
    Calls Tryz.prog 28 #[.agg #[.int .i64 W, .slice s n cg]] w (GivesI w W n L) := by
  have h := sorted_spec (W : Int) s n cg xs w hR (by have := hI.l6; omega)
  rw [sorto_im hI, hL] at h
  exact h.mono fun _ _ hh => hh.ok (by rw [← hL]; exact (sorti_im hI).hl)
theorem srt_no (hv : validB V xs = false) (hn : n ≤ 6) (s : Option Addr) (cg : Nat) (w : World) (hR : Row w s n xs) :
    Calls Tryz.prog 27 #[.agg #[.int .i64 V, .slice s n cg]] w (GivesN w) := by
  have h := sorted_impl V s n cg xs w hR (by omega)
  rw [show sortO V xs = .no from if_neg (by rw [hv]; simp)] at h
  exact h
theorem srt_sno (hv : validB V xs = false) (hn : n ≤ 6) (s : Option Addr) (cg : Nat) (w : World) (hR : Row w s n xs) :
    Calls Tryz.prog 28 #[.agg #[.int .i64 V, .slice s n cg]] w (GivesN w) := by
  have h := sorted_spec V s n cg xs w hR (by omega)
  rw [show sortO V xs = .no from if_neg (by rw [hv]; simp)] at h
  exact h
end Go.Proofs.YtnhcknbbkmaiiaaGreatDoor

