/-
  The contracts of BuildImage, BuildRow and SumsFit in the form that the laws use.
-/
import Derived.Test.YtocbnpkdncnbgaaDoorDp
import Derived.Test.YtocbnpkdncnbgaaDoorEp
namespace Go.Proofs.YtocbnpkdncnbgaaDoor
set_option maxRecDepth 100000
open Go.RowKit

theorem bi_ok {xs ys L : List Int} (h : conB xs ys = true) (hL : buildL xs ys = L) {n m : Nat} (lx : xs.length = n) (ly : ys.length = m) (s s' : Option Addr) (c c' : Nat) (p : Addr) (w : World) (hR : Row w s n xs) (hR' : Row w s' m ys) (hE : w.cell? ⟨0, 0, none⟩ = some (errV p)) :
    Calls Tryd.prog 16 #[.slice s n c, .slice s' m c'] w (GivesI w m n L) := by
  have hp := sumsB_parts (conB_valid h)
  have hc := bi_impl s s' n m c c' xs ys p w hR hR' hE (by omega) (by omega)
  unfold biOut at hc
  rw [if_pos h, ly, hL] at hc
  exact hc.mono fun e w' hg => hg.ok (by rw [← hL, build_len, lx])
theorem bi_no {xs ys : List Int} (h : conB xs ys = false) {n m : Nat} (hn : n ≤ 13) (hm : m ≤ 13) (s s' : Option Addr) (c c' : Nat) (p : Addr) (w : World) (hR : Row w s n xs) (hR' : Row w s' m ys) (hE : w.cell? ⟨0, 0, none⟩ = some (errV p)) :
    Calls Tryd.prog 16 #[.slice s n c, .slice s' m c'] w (GivesN w) := by
  have hc := bi_impl s s' n m c c' xs ys p w hR hR' hE (by omega) (by omega)
  unfold biOut at hc
  rw [h] at hc
  exact hc
theorem bis_ok {xs ys L : List Int} (h : conB xs ys = true) (hL : buildL xs ys = L) {n m : Nat} (lx : xs.length = n) (ly : ys.length = m) (s s' : Option Addr) (c c' : Nat) (w : World) (hR : Row w s n xs) (hR' : Row w s' m ys) :
    Calls Tryd.prog 17 #[.slice s n c, .slice s' m c'] w (GivesI w m n L) := by
  have hp := sumsB_parts (conB_valid h)
  have hc := bi_spec s s' n m c c' xs ys w hR hR' (by omega) (by omega)
  unfold biOut at hc
  rw [if_pos h, ly, hL] at hc
  exact hc.mono fun e w' hg => hg.ok (by rw [← hL, build_len, lx])
theorem bis_no {xs ys : List Int} (h : conB xs ys = false) {n m : Nat} (hn : n ≤ 13) (hm : m ≤ 13) (s s' : Option Addr) (c c' : Nat) (w : World) (hR : Row w s n xs) (hR' : Row w s' m ys) :
    Calls Tryd.prog 17 #[.slice s n c, .slice s' m c'] w (GivesN w) := by
  have hc := bi_spec s s' n m c c' xs ys w hR hR' (by omega) (by omega)
  unfold biOut at hc
  rw [h] at hc
  exact hc
theorem br_ok {xs ys L : List Int} (h : conB xs ys = true) (hL : buildR xs ys = L) {n m : Nat} (lx : xs.length = n) (ly : ys.length = m) (s s' : Option Addr) (c c' : Nat) (p : Addr) (w : World) (hR : Row w s n xs) (hR' : Row w s' m ys) (hE : w.cell? ⟨0, 0, none⟩ = some (errV p)) :
    Calls Tryd.prog 18 #[.slice s n c, .slice s' m c'] w (GivesI w m n L) := by
  have hp := sumsB_parts (conB_valid h)
  have hc := br_impl s s' n m c c' xs ys p w hR hR' hE (by omega) (by omega)
  unfold brOut at hc
  rw [if_pos h, ly, hL] at hc
  exact hc.mono fun e w' hg => hg.ok (by rw [← hL, buildR_len, lx])
theorem br_no {xs ys : List Int} (h : conB xs ys = false) {n m : Nat} (hn : n ≤ 13) (hm : m ≤ 13) (s s' : Option Addr) (c c' : Nat) (p : Addr) (w : World) (hR : Row w s n xs) (hR' : Row w s' m ys) (hE : w.cell? ⟨0, 0, none⟩ = some (errV p)) :
    Calls Tryd.prog 18 #[.slice s n c, .slice s' m c'] w (GivesN w) := by
  have hc := br_impl s s' n m c c' xs ys p w hR hR' hE (by omega) (by omega)
  unfold brOut at hc
  rw [h] at hc
  exact hc
theorem brs_ok {xs ys L : List Int} (h : conB xs ys = true) (hL : buildR xs ys = L) {n m : Nat} (lx : xs.length = n) (ly : ys.length = m) (s s' : Option Addr) (c c' : Nat) (w : World) (hR : Row w s n xs) (hR' : Row w s' m ys) :
    Calls Tryd.prog 25 #[.slice s n c, .slice s' m c'] w (GivesI w m n L) := by
  have hp := sumsB_parts (conB_valid h)
  have hc := br_spec s s' n m c c' xs ys w hR hR' (by omega) (by omega)
  unfold brOut at hc
  rw [if_pos h, ly, hL] at hc
  exact hc.mono fun e w' hg => hg.ok (by rw [← hL, buildR_len, lx])
theorem brs_no {xs ys : List Int} (h : conB xs ys = false) {n m : Nat} (hn : n ≤ 13) (hm : m ≤ 13) (s s' : Option Addr) (c c' : Nat) (w : World) (hR : Row w s n xs) (hR' : Row w s' m ys) :
    Calls Tryd.prog 25 #[.slice s n c, .slice s' m c'] w (GivesN w) := by
  have hc := br_spec s s' n m c c' xs ys w hR hR' (by omega) (by omega)
  unfold brOut at hc
  rw [h] at hc
  exact hc
end Go.Proofs.YtocbnpkdncnbgaaDoor

