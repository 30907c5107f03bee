/-
  Plain facts on images with the same sums: turned, mirrored, other cells.
-/
import Derived.Test.YtgifpanbjlkmeaaSo
import Derived.Test.YtgifpanbjlkmeaaSj
namespace Go.Proofs.Ytgifpanbjlkmeaa
open Go.RowKit

theorem Im.same {W n : Nat} {xs ys : List Int} (h : Im W n xs) (k : Im W n ys) (hr : rsL xs W n = rsL ys W n) (hc : csL xs n W = csL ys n W) : sameB W xs W ys = true := by
  unfold sameB
  exact fitB_4 k.valid (decide_eq_true (by rw [k.rs, h.rs, hr])) (decide_eq_true (by rw [k.cs, h.cs, hc]))
theorem Im.same_turn {W n : Nat} {xs ys : List Int} (h : Im W n xs) (k : Im W n ys) (hr : rsL xs W n = rsL ys W n) (hc : csL xs n W = csL ys n W) : sameB n (turnL xs W n) n (turnL ys W n) = true :=
  h.turn.same k.turn (by rw [h.turn_rs, k.turn_rs, hc]) (by rw [h.turn_cs, k.turn_cs, hr])
theorem Im.same_mir {W n : Nat} {xs ys : List Int} (h : Im W n xs) (k : Im W n ys) (hr : rsL xs W n = rsL ys W n) (hc : csL xs n W = csL ys n W) : sameB W (mirL xs W n) W (mirL ys W n) = true :=
  h.mir.same k.mir (by rw [h.mir_rs, k.mir_rs, hr]) (lists_ext (n := W) (cs_len _ _ _) (cs_len _ _ _) fun j hj => by rw [h.mir_cs hj, k.mir_cs hj, hc])
theorem Im.same_oth {W n : Nat} {xs ys : List Int} (h : Im W n xs) (k : Im W n ys) (hr : rsL xs W n = rsL ys W n) (hc : csL xs n W = csL ys n W) : sameB W (othL xs W n) W (othL ys W n) = true :=
  h.oth.same k.oth (by rw [h.oth_rs, k.oth_rs, hr]) (by rw [h.oth_cs, k.oth_cs, hc])
end Go.Proofs.Ytgifpanbjlkmeaa

