/-
  Plain: images with the same sums are valid and of one size.
-/
import Derived.Test.YtnfkafaolelkbaaEp
import Derived.Test.YtnfkafaolelkbaaVa
import Derived.Test.YtnfkafaolelkbaaSk
namespace Go.Proofs.Ytnfkafaolelkbaa
set_option maxRecDepth 100000
open Go.RowKit

theorem same_im {V W : Int} {xs ys : List Int} {n m : Nat} (hx : xs.length = n) (hy : ys.length = m) (h : sameB V xs W ys = true) : ∃ K : Nat, V = K ∧ W = K ∧ n = m ∧ Im K n xs ∧ Im K n ys ∧ SumE xs ys K n := by
  obtain ⟨hv1, hv2, hrs, hcs⟩ := same_parts h
  have hI0 := validB_W hv1
  have hI1 := validB_W hv2
  obtain ⟨K, rfl⟩ := Int.eq_ofNat_of_zero_le (by omega : 0 ≤ V)
  obtain ⟨K2, rfl⟩ := Int.eq_ofNat_of_zero_le (by omega : 0 ≤ W)
  have hI : Im K n xs := Im.of hv1 hx
  have hJ : Im K2 m ys := Im.of hv2 hy
  rw [hI.rs, hJ.rs] at hrs
  rw [hI.cs, hJ.cs] at hcs
  have e1 : n = m := by have := congrArg List.length hrs; rwa [rs_len, rs_len] at this
  have e2 : K = K2 := by have := congrArg List.length hcs; rwa [cs_len, cs_len] at this
  subst e1 e2
  exact ⟨K, rfl, rfl, rfl, hI, hJ, hrs, hcs⟩
end Go.Proofs.Ytnfkafaolelkbaa

