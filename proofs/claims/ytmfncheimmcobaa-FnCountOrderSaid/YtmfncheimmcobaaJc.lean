/-
  Plain facts: the order of the sums does not matter.
-/
import Derived.Test.YtmfncheimmcobaaJa
import Derived.Test.YtmfncheimmcobaaVa
namespace Go.Proofs.Ytmfncheimmcobaa
set_option maxRecDepth 100000

/-- A list turned around by k. -/
def ro (n k i : Nat) : Nat := if i + k < n then i + k else i + k - n
theorem ro_lt {n k i : Nat} (hk : k ≤ n) (hi : i < n) : ro n k i < n := by unfold ro; split <;> omega
theorem ro_back {n k i : Nat} (hk : k ≤ n) (hi : i < n) : ro n (n - k) (ro n k i) = i := by unfold ro; split <;> split <;> omega
theorem ro_forth {n k i : Nat} (hk : k ≤ n) (hi : i < n) : ro n k (ro n (n - k) i) = i := by unfold ro; split <;> split <;> omega
theorem sum_app (f : Nat → Int) (a : Nat) : ∀ b, sumI f (a + b) = sumI f a + sumI (fun i => f (a + i)) b
  | 0 => by simp [sumI]
  | b + 1 => by rw [← Nat.add_assoc]; simp only [sumI]; rw [sum_app f a b]; omega
theorem ro_sum (f : Nat → Int) {n k : Nat} (hk : k ≤ n) : sumI (fun i => f (ro n k i)) n = sumI f n := by
  have e1 := sum_app (fun i => f (ro n k i)) (n - k) k
  have e2 := sum_app f k (n - k)
  rw [show n - k + k = n by omega] at e1
  rw [show k + (n - k) = n by omega] at e2
  rw [e1, e2]
  rw [sum_ext (f := fun i => f (ro n k i)) (g := fun i => f (k + i)) (k := n - k) fun i hi => by
    (try dsimp only); unfold ro; rw [if_pos (by omega), Nat.add_comm]]
  rw [sum_ext (f := fun i => f (ro n k (n - k + i))) (g := f) (k := k) fun i hi => by
    (try dsimp only); unfold ro; rw [if_neg (by omega), show n - k + i + k - n = i by omega]]
  omega
theorem ro_get {xs : List Int} {k i : Nat} (hk : k ≤ xs.length) (hi : i < xs.length) : (xs.drop k ++ xs.take k).getD i 0 = xs.getD (ro xs.length k i) 0 := by
  unfold ro
  simp only [List.getD_eq_getElem?_getD]
  split
  · rw [List.getElem?_append_left (by rw [List.length_drop]; omega), List.getElem?_drop, Nat.add_comm]
  · rw [List.getElem?_append_right (by rw [List.length_drop]; omega), List.length_drop, List.getElem?_take, if_pos (by omega)]
    rw [show i - (xs.length - k) = i + k - xs.length by omega]
theorem ro_len (xs : List Int) {k : Nat} (hk : k ≤ xs.length) : (xs.drop k ++ xs.take k).length = xs.length := by
  rw [List.length_append, List.length_drop, List.length_take]; omega
/-- Rows and columns of an image turned around. -/
def roI (xs : List Int) (W n k l : Nat) : List Int := cellsL (fun i j => cellOf xs (ro n k i) (ro W l j)) W n
theorem cells_ofc {W n : Nat} {c : Nat → Nat → Bool} {i j : Nat} (hw : W ≤ 6) (hi : i < n) (hj : j < W) : cellOf (cellsL c W n) i j = c i j := by
  have e : cellOf (cellsL c W n) i j = decide (bitI ((cellsL c W n).getD i 0) j = 1) := rfl
  rw [e, cells_bit hw hi hj]
  cases c i j <;> rfl
theorem roI_cell {xs : List Int} {W n k l i j : Nat} (h : Im W n xs) (hi : i < n) (hj : j < W) : cellOf (roI xs W n k l) i j = cellOf xs (ro n k i) (ro W l j) := cells_ofc h.w6 hi hj
theorem roI_im {xs : List Int} {W n : Nat} (h : Im W n xs) (k l : Nat) : Im W n (roI xs W n k l) := cells_im _ h.w1 h.w6 h.l1 h.l6
theorem roI_back {xs : List Int} {W n k l : Nat} (h : Im W n xs) (hk : k ≤ n) (hl : l ≤ W) : roI (roI xs W n k l) W n (n - k) (W - l) = xs := by
  refine im_cell_ext (roI_im (roI_im h ..) ..) h fun i j hi hj => ?_
  rw [roI_cell (roI_im h ..) hi hj, roI_cell h (ro_lt (by omega) hi) (ro_lt (by omega) hj), ro_forth hk hi, ro_forth hl hj]
theorem roI_forth {xs : List Int} {W n k l : Nat} (h : Im W n xs) (hk : k ≤ n) (hl : l ≤ W) : roI (roI xs W n (n - k) (W - l)) W n k l = xs := by
  refine im_cell_ext (roI_im (roI_im h ..) ..) h fun i j hi hj => ?_
  rw [roI_cell (roI_im h ..) hi hj, roI_cell h (ro_lt hk hi) (ro_lt hl hj), ro_back hk hi, ro_back hl hj]
theorem roI_rs {xs : List Int} {W n k l : Nat} (h : Im W n xs) (hl : l ≤ W) {i : Nat} (hi : i < n) (hk : k ≤ n) : (rsL (roI xs W n k l) W n).getD i 0 = (rsL xs W n).getD (ro n k i) 0 := by
  rw [rs_cells _ _ _ _ hi, rs_cells _ _ _ _ (ro_lt hk hi)]
  rw [sum_ext (g := fun j => (fun j => bI (cellOf xs (ro n k i) j)) (ro W l j)) fun j hj => by rw [roI_cell h hi hj]]
  exact ro_sum (fun j => bI (cellOf xs (ro n k i) j)) hl
theorem roI_cs {xs : List Int} {W n k l : Nat} (h : Im W n xs) (hl : l ≤ W) {j : Nat} (hj : j < W) (hk : k ≤ n) : (csL (roI xs W n k l) n W).getD j 0 = (csL xs n W).getD (ro W l j) 0 := by
  rw [cs_cells _ _ _ _ hj, cs_cells _ _ _ _ (ro_lt hl hj)]
  rw [sum_ext (g := fun i => (fun i => bI (cellOf xs i (ro W l j))) (ro n k i)) fun i hi => by rw [roI_cell h hi hj]]
  exact ro_sum (fun i => bI (cellOf xs i (ro W l j))) hk
/-- The order of the sums does not matter. -/
theorem cnt_ro {rows cols : List Int} (hs : sumsB rows cols = true) {k l : Nat} (hk : k ≤ rows.length) (hl : l ≤ cols.length) : cntS (rows.drop k ++ rows.take k) (cols.drop l ++ cols.take l) = cntS rows cols := by
  have e1 := ro_len rows hk
  have e2 := ro_len cols hl
  unfold cntS
  rw [e1, e2]
  refine nOf_eq (fun xs => roI xs cols.length rows.length (rows.length - k) (cols.length - l)) (fun xs => roI xs cols.length rows.length k l) (fun xs hx hp => ?_) fun xs hx hp => ?_
  · have hI := im_fit hs hx
    obtain ⟨h1, h2⟩ := fitP_iff.1 hp
    have := fit_im (roI_im hI (rows.length - k) (cols.length - l)) (rows := rows) (cols := cols)
      (lists_ext (rs_len ..) rfl fun i hi => by
        rw [roI_rs hI (by omega) hi (by omega), h1, ro_get hk (ro_lt (by omega) hi), ro_forth hk hi])
      (lists_ext (cs_len ..) rfl fun j hj => by
        rw [roI_cs hI (by omega) hj (by omega), h2, ro_get hl (ro_lt (by omega) hj), ro_forth hl hj])
    exact ⟨this.1, this.2, roI_forth hI hk hl⟩
  · have hI := im_fit hs hx
    obtain ⟨h1, h2⟩ := fitP_iff.1 hp
    have := fit_im (roI_im hI k l) (rows := rows.drop k ++ rows.take k) (cols := cols.drop l ++ cols.take l)
      (lists_ext (rs_len ..) e1 fun i hi => by rw [roI_rs hI hl hi hk, h1, ro_get hk hi])
      (lists_ext (cs_len ..) e2 fun j hj => by rw [roI_cs hI hl hj hk, h2, ro_get hl hj])
    exact ⟨this.1, this.2, roI_back hI hk hl⟩

end Go.Proofs.Ytmfncheimmcobaa

