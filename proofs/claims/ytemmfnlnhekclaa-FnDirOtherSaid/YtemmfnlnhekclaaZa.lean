/-
  Plain facts: directions, their lines, line sums.
-/
import Derived.Test.YtemmfnlnhekclaaEp
namespace Go.Proofs.Ytemmfnlnhekclaa
set_option maxRecDepth 100000

/-- The step in columns of a direction. -/
def dX : Nat → Int
  | 1 => 0
  | 4 => 2
  | 6 => 2
  | _ => 1
/-- The step in rows of a direction. -/
def dY : Nat → Int
  | 0 => 0
  | 1 => 1
  | 2 => 1
  | 3 => -1
  | 4 => 1
  | 5 => 2
  | 6 => -1
  | _ => -2
/-- The line of a cell. -/
def lnI (d : Nat) (i j : Int) : Int := dX d * i - dY d * j
/-- The least line. -/
def loI (d W : Nat) : Int := if dY d < 0 then 0 else - (dY d * ((W : Int) - 1))
/-- The greatest line. -/
def hiI (d n W : Nat) : Int := if dY d < 0 then dX d * ((n : Int) - 1) - dY d * ((W : Int) - 1) else dX d * ((n : Int) - 1)
/-- How many lines there are. -/
def numN (d n W : Nat) : Nat := (hiI d n W - loI d W + 1).toNat
/-- The place of a cell's line. -/
def posN (d W i j : Nat) : Nat := (lnI d i j - loI d W).toNat
theorem dir_all {P : Nat → Prop} (h0 : P 0) (h1 : P 1) (h2 : P 2) (h3 : P 3) (h4 : P 4) (h5 : P 5) (h6 : P 6) (h7 : P 7) {d : Nat} (hd : d < 8) : P d := by
  rcases (show d = 0 ∨ d = 1 ∨ d = 2 ∨ d = 3 ∨ d = 4 ∨ d = 5 ∨ d = 6 ∨ d = 7 by omega) with r | r | r | r | r | r | r | r <;> subst r <;> assumption
theorem dXY {d : Nat} (hd : d < 8) : 0 ≤ dX d ∧ dX d ≤ 2 ∧ -2 ≤ dY d ∧ dY d ≤ 2 := by
  revert d; exact fun {d} hd => dir_all (P := fun d => 0 ≤ dX d ∧ dX d ≤ 2 ∧ -2 ≤ dY d ∧ dY d ≤ 2) (by decide) (by decide) (by decide) (by decide) (by decide) (by decide) (by decide) (by decide) hd
theorem pos_num {d n W i j : Nat} (hd : d < 8) (hi : i < n) (hj : j < W) :
    (posN d W i j : Int) = lnI d i j - loI d W ∧ (numN d n W : Int) = hiI d n W - loI d W + 1 ∧ posN d W i j < numN d n W ∧ loI d W ≤ lnI d i j ∧ lnI d i j ≤ hiI d n W := by
  refine dir_all (P := fun d => (posN d W i j : Int) = lnI d i j - loI d W ∧ (numN d n W : Int) = hiI d n W - loI d W + 1 ∧ posN d W i j < numN d n W ∧ loI d W ≤ lnI d i j ∧ lnI d i j ≤ hiI d n W) ?_ ?_ ?_ ?_ ?_ ?_ ?_ ?_ hd <;> simp only [posN, numN, lnI, loI, hiI, dX, dY, Int.reduceLT, Int.reduceNeg, reduceIte] <;> omega
theorem num_int {d n W : Nat} (hd : d < 8) (hn : 1 ≤ n) (hW : 1 ≤ W) : (numN d n W : Int) = hiI d n W - loI d W + 1 := (pos_num (i := 0) (j := 0) hd hn hW).2.1
theorem nmN_bd {d n W : Nat} (hd : d < 8) (hn : 1 ≤ n) (hn6 : n ≤ 6) (hW : 1 ≤ W) (hW6 : W ≤ 6) : 1 ≤ numN d n W ∧ numN d n W ≤ 16 := by
  refine dir_all (P := fun d => 1 ≤ numN d n W ∧ numN d n W ≤ 16) ?_ ?_ ?_ ?_ ?_ ?_ ?_ ?_ hd <;> simp only [numN, loI, hiI, dX, dY, Int.reduceLT, Int.reduceNeg, reduceIte] <;> omega
theorem line_bd {d n W : Nat} (hd : d < 8) (hn : 1 ≤ n) (hn6 : n ≤ 6) (hW : 1 ≤ W) (hW6 : W ≤ 6) : -10 ≤ loI d W ∧ loI d W ≤ 0 ∧ 0 ≤ hiI d n W ∧ hiI d n W ≤ 15 := by
  refine dir_all (P := fun d => -10 ≤ loI d W ∧ loI d W ≤ 0 ∧ 0 ≤ hiI d n W ∧ hiI d n W ≤ 15) ?_ ?_ ?_ ?_ ?_ ?_ ?_ ?_ hd <;> simp only [loI, hiI, dX, dY, Int.reduceLT, Int.reduceNeg, reduceIte] <;> omega
/-- What a line of a row's first cells holds. -/
def rcI (v : Nat → Nat → Int) (d W i j k : Nat) : Int := sumI (fun q => if posN d W i q = k then v i q else 0) j
/-- What a line of the first rows holds. -/
def dlI (v : Nat → Nat → Int) (d W n k : Nat) : Int := sumI (fun i => rcI v d W i W k) n
/-- The sums before the cell (i, j). -/
def dpI (v : Nat → Nat → Int) (d W i j k : Nat) : Int := dlI v d W i k + rcI v d W i j k
def dpL (v : Nat → Nat → Int) (d W n i j : Nat) : List Int := rowsL (dpI v d W i j) (numN d n W)
def dlL (v : Nat → Nat → Int) (d W n : Nat) : List Int := rowsL (dlI v d W n) (numN d n W)
def bvI (xs : List Int) (i j : Nat) : Int := bitI (xs.getD i 0) j
/-- The line sums of an image. -/
def dsL (d : Nat) (xs : List Int) (W n : Nat) : List Int := dlL (bvI xs) d W n
theorem dp_len (v : Nat → Nat → Int) (d W n i j : Nat) : (dpL v d W n i j).length = numN d n W := rows_len _ _
theorem dv_len (v : Nat → Nat → Int) (d W n : Nat) : (dlL v d W n).length = numN d n W := rows_len _ _
theorem ds_len (d : Nat) (xs : List Int) (W n : Nat) : (dsL d xs W n).length = numN d n W := rows_len _ _
theorem dp_get {v : Nat → Nat → Int} {d W n i j k : Nat} (hk : k < numN d n W) : (dpL v d W n i j).getD k 0 = dpI v d W i j k := rows_get _ hk
theorem ds_get {d : Nat} {xs : List Int} {W n k : Nat} (hk : k < numN d n W) : (dsL d xs W n).getD k 0 = dlI (bvI xs) d W n k := rows_get _ hk
theorem dp_start (v : Nat → Nat → Int) (d W n : Nat) : dpL v d W n 0 0 = List.replicate (numN d n W) 0 := by
  rw [← rows_zero]; exact rows_ext fun i _ => by simp [dpI, dlI, rcI, sumI]
theorem dp_next (v : Nat → Nat → Int) (d W n i : Nat) : dpL v d W n i W = dpL v d W n (i + 1) 0 :=
  rows_ext fun k _ => by simp [dpI, dlI, rcI, sumI]
theorem dp_end (v : Nat → Nat → Int) (d W n : Nat) : dpL v d W n n 0 = dlL v d W n := rows_ext fun k _ => by simp [dpI, rcI, sumI]
theorem dp_step {v : Nat → Nat → Int} {d W n i j : Nat} (hd : d < 8) (hi : i < n) (hj : j < W) :
    (dpL v d W n i j).set (posN d W i j) (dpI v d W i j (posN d W i j) + v i j) = dpL v d W n i (j + 1) :=
  rows_set _ _ (pos_num hd hi hj).2.2.1 (by simp [dpI, rcI, sumI]; omega) fun k _ hne => by
    have h : ¬ posN d W i j = k := fun h => hne h.symm
    simp [dpI, rcI, sumI, h]
theorem sum_abs {f : Nat → Int} {k : Nat} {K : Int} (h : ∀ i, i < k → -K ≤ f i ∧ f i ≤ K) : -(k * K) ≤ sumI f k ∧ sumI f k ≤ k * K := by
  induction k with
  | zero => simp [sumI]
  | succ k ih =>
    have h1 := ih fun i hi => h i (by omega)
    have h2 := h k (by omega)
    have e : ((k + 1 : Nat) : Int) * K = k * K + K := by push_cast; rw [Int.add_mul]; omega
    rw [e]; simp only [sumI]; omega
theorem rc_bd {v : Nat → Nat → Int} {d W i j k : Nat} {K : Int} (hK : 0 ≤ K) (h : ∀ i j, -K ≤ v i j ∧ v i j ≤ K) : -(j * K) ≤ rcI v d W i j k ∧ rcI v d W i j k ≤ j * K :=
  sum_abs fun q _ => by
    by_cases e : posN d W i q = k
    · simp only [e, if_true]; exact h i q
    · simp only [e, if_false]; omega
theorem dp_bd {v : Nat → Nat → Int} {d W i j k : Nat} {K : Int} (hK : 0 ≤ K) (h : ∀ i j, -K ≤ v i j ∧ v i j ≤ K) (hi : i ≤ 6) (hj : j ≤ 6) (hW : W ≤ 6) : -(42 * K) ≤ dpI v d W i j k ∧ dpI v d W i j k ≤ 42 * K := by
  have a := rc_bd (d := d) (W := W) (i := i) (j := j) (k := k) hK h
  have b : -(i * (W * K)) ≤ dlI v d W i k ∧ dlI v d W i k ≤ i * (W * K) := sum_abs fun p _ => rc_bd hK h
  have c1 : (j : Int) * K ≤ 6 * K := Int.mul_le_mul_of_nonneg_right (by omega) hK
  have c2 : (W : Int) * K ≤ 6 * K := Int.mul_le_mul_of_nonneg_right (by omega) hK
  have c3 : (i : Int) * (W * K) ≤ 6 * (6 * K) := by
    have s1 : (i : Int) * (W * K) ≤ i * (6 * K) := Int.mul_le_mul_of_nonneg_left c2 (by omega)
    have s2 : (i : Int) * (6 * K) ≤ 6 * (6 * K) := Int.mul_le_mul_of_nonneg_right (by omega) (by omega)
    omega
  unfold dpI; omega
theorem bv_01 (xs : List Int) (i j : Nat) : 0 ≤ bvI xs i j ∧ bvI xs i j ≤ 1 := bit_01 _ _
/-- A sum in which just one term counts. -/
theorem sum_del {x : Int} {p k : Nat} (hp : p < k) : sumI (fun q => if p = q then x else 0) k = x := by
  have h := sum_one (f := fun q => if p = q then x else 0) (g := fun _ => 0) (k := k) (m := p) (d := x) hp (by simp) fun i _ hne => if_neg fun h => hne h.symm
  rw [h, sum_zero]; omega
theorem dv_sum (v : Nat → Nat → Int) {d W n : Nat} (hd : d < 8) : sumI (fun k => dlI v d W n k) (numN d n W) = sumI (fun i => sumI (v i) W) n := by
  have e : (fun k => dlI v d W n k) = fun k => sumI (fun i => rcI v d W i W k) n := rfl
  rw [e, sum_swap (fun k i => rcI v d W i W k)]
  refine sum_ext fun i hi => ?_
  have e2 : (fun k => rcI v d W i W k) = fun k => sumI (fun q => if posN d W i q = k then v i q else 0) W := rfl
  rw [e2, sum_swap (fun k q => if posN d W i q = k then v i q else 0)]
  exact sum_ext fun j hj => sum_del (pos_num hd hi hj).2.2.1
theorem ds_sum {xs : List Int} {d W n : Nat} (hd : d < 8) : sumI (fun k => (dsL d xs W n).getD k 0) (numN d n W) = manyI W xs n := by
  rw [sum_ext (fun k hk => ds_get hk), dv_sum _ hd, many_sum]; rfl
/-- Two line sums: cells with the same lines. -/
theorem dv_rows {v : Nat → Nat → Int} {d W n k : Nat} : dlI v d W n k = sumI (fun i => sumI (fun j => if posN d W i j = k then v i j else 0) W) n := rfl
theorem num_01 (n W : Nat) : numN 0 n W = n ∧ numN 1 n W = W := by
  constructor <;> simp only [numN, hiI, loI, dX, dY, Int.reduceLT, reduceIte] <;> omega
theorem ds_row {W n : Nat} (xs : List Int) : dsL 0 xs W n = rsL xs W n := by
  unfold dsL dlL rsL; rw [(num_01 n W).1]
  refine rows_ext fun k hk => ?_
  have h1 : ∀ i, i < n → sumI (fun j => if posN 0 W i j = k then bvI xs i j else 0) W = if k = i then cntI (xs.getD i 0) W else 0 := fun i _ => by
    by_cases e : k = i
    · rw [if_pos e, cnt_sum]; refine sum_ext fun j _ => ?_
      have : posN 0 W i j = k := by simp only [posN, lnI, loI, dX, dY, Int.reduceLT, reduceIte]; omega
      rw [if_pos this]; rfl
    · rw [if_neg e]; refine Eq.trans (sum_ext fun j _ => ?_) (sum_zero W)
      have : ¬ posN 0 W i j = k := by simp only [posN, lnI, loI, dX, dY, Int.reduceLT, reduceIte]; omega
      rw [if_neg this]
  rw [dv_rows, sum_ext h1]
  have h2 := sum_one (f := fun i => if k = i then cntI (xs.getD i 0) W else 0) (g := fun _ => 0) (k := n) (m := k) (d := cntI (xs.getD k 0) W) hk (by simp) fun i _ hne => if_neg fun h => hne h.symm
  rw [h2, sum_zero]; omega
theorem ds_col {W n j : Nat} (hj : j < W) (xs : List Int) : (dsL 1 xs W n).getD j 0 = csI xs (W - 1 - j) n := by
  rw [ds_get (by rw [(num_01 n W).2]; exact hj), dv_rows]
  refine sum_ext fun i _ => ?_
  have h2 := sum_one (f := fun q => if posN 1 W i q = j then bvI xs i q else 0) (g := fun _ => 0) (k := W) (m := W - 1 - j) (d := bvI xs i (W - 1 - j)) (by omega)
    (by have : posN 1 W i (W - 1 - j) = j := by simp only [posN, lnI, loI, dX, dY, Int.reduceLT, reduceIte]; omega
        simp [this]) fun q hq hne => if_neg (by simp only [posN, lnI, loI, dX, dY, Int.reduceLT, reduceIte]; omega)
  rw [h2, sum_zero]; simp [bvI]
/-- One cell changed: one line changes. -/
theorem dv_put {v u : Nat → Nat → Int} {d W n i j : Nat} {e : Int} (hi : i < n) (hj : j < W) (hv : u i j = v i j + e) (h : ∀ a b, a < n → b < W → ¬ (a = i ∧ b = j) → u a b = v a b) (k : Nat) :
    dlI u d W n k = dlI v d W n k + if posN d W i j = k then e else 0 := by
  rw [dv_rows, dv_rows]
  refine sum_one hi ?_ fun a ha hne => sum_ext fun b hb => by rw [h a b ha hb fun x => hne x.1]
  refine sum_one hj ?_ fun b hb hne => by rw [h i b hi hb fun x => hne x.2]
  by_cases p : posN d W i j = k <;> simp [p, hv]
def absI (x : Int) : Int := if 0 ≤ x then x else -x
theorem ds_put {W n : Nat} {xs : List Int} (h : Im W n xs) {d i j : Nat} (hd : d < 8) (hi : i < n) (hj : j < W) :
    sumI (fun k => absI ((dsL d (putL xs i j (!hasB W xs i j)) W n).getD k 0 - (dsL d xs W n).getD k 0)) (numN d n W) = 1 := by
  have hp := (pos_num hd hi hj).2.2.1
  rw [sum_ext (g := fun k => if posN d W i j = k then 1 else 0) fun k hk => ?_]
  · exact sum_del hp
  · rw [ds_get hk, ds_get hk, dv_put (v := bvI xs) (e := flipD (hasB W xs i j)) hi hj]
    · by_cases p : posN d W i j = k
      · simp only [p, if_true]; have : dlI (bvI xs) d W n k + flipD (hasB W xs i j) - dlI (bvI xs) d W n k = flipD (hasB W xs i j) := by omega
        rw [this]; cases hasB W xs i j <;> rfl
      · simp only [p, if_false]; have : dlI (bvI xs) d W n k + 0 - dlI (bvI xs) d W n k = 0 := by omega
        rw [this]; rfl
    · have := h.flip_bit hi hj hi hj; simpa [bvI] using this
    · intro a b ha hb hne; have := h.flip_bit hi hj ha hb; rw [if_neg hne] at this; exact this
theorem sum_shf (f : Nat → Int) (n : Nat) : sumI f (n + 1) = f 0 + sumI (fun i => f (i + 1)) n := by
  induction n with
  | zero => simp [sumI]
  | succ n ih =>
    have e : sumI f (n + 1 + 1) = sumI f (n + 1) + f (n + 1) := rfl
    have e2 : sumI (fun i => f (i + 1)) (n + 1) = sumI (fun i => f (i + 1)) n + f (n + 1) := rfl
    rw [e, e2, ih]; omega
theorem sum_bak (f : Nat → Int) (W : Nat) : sumI (fun j => f (W - 1 - j)) W = sumI f W := by
  induction W with
  | zero => rfl
  | succ W ih =>
    rw [sum_shf]
    have e : sumI (fun j => f (W + 1 - 1 - (j + 1))) W = sumI (fun j => f (W - 1 - j)) W := sum_ext fun j _ => by rw [show W + 1 - 1 - (j + 1) = W - 1 - j by omega]
    rw [e, ih]
    show f (W + 1 - 1 - 0) + sumI f W = sumI f W + f W
    rw [show W + 1 - 1 - 0 = W by omega]; omega
/-- Lines of images whose cells are turned into each other. -/
theorem dv_mir {u v : Nat → Nat → Int} {d e W n k m : Nat} (h : ∀ i j, i < n → j < W → u i (W - 1 - j) = v i j) (hp : ∀ i j, i < n → j < W → (posN d W i (W - 1 - j) = k ↔ posN e W i j = m)) :
    dlI u d W n k = dlI v e W n m := by
  rw [dv_rows, dv_rows]
  refine sum_ext fun i hi => ?_
  rw [← sum_bak (fun j => if posN d W i j = k then u i j else 0)]
  exact sum_ext fun j hj => by simp only [hp i j hi hj, h i j hi hj]
theorem dv_turn {u v : Nat → Nat → Int} {d e W n k m : Nat} (h : ∀ i j, i < n → j < W → u j i = v i j) (hp : ∀ i j, i < n → j < W → (posN d n j i = k ↔ posN e W i j = m)) :
    dlI u d n W k = dlI v e W n m := by
  rw [dv_rows, dv_rows, sum_swap (fun j i => if posN d n j i = k then u j i else 0)]
  exact sum_ext fun i hi => sum_ext fun j hj => by simp only [hp i j hi hj, h i j hi hj]
theorem dv_half {u v : Nat → Nat → Int} {d e W n k m : Nat} (h : ∀ i j, i < n → j < W → u (n - 1 - i) (W - 1 - j) = v i j) (hp : ∀ i j, i < n → j < W → (posN d W (n - 1 - i) (W - 1 - j) = k ↔ posN e W i j = m)) :
    dlI u d W n k = dlI v e W n m := by
  rw [dv_rows, dv_rows, ← sum_bak (fun i => sumI (fun j => if posN d W i j = k then u i j else 0) W)]
  refine sum_ext fun i hi => ?_
  rw [← sum_bak (fun j => if posN d W (n - 1 - i) j = k then u (n - 1 - i) j else 0)]
  exact sum_ext fun j hj => by simp only [hp i j hi hj, h i j hi hj]
theorem ds_mir {W n : Nat} {xs : List Int} (h : Im W n xs) : dsL 2 (mirL xs W n) W n = dsL 3 xs W n ∧ dsL 4 (mirL xs W n) W n = dsL 6 xs W n := by
  have hb : ∀ i j, i < n → j < W → bvI (mirL xs W n) i (W - 1 - j) = bvI xs i j := fun i j hi hj => h.mir_bit hi hj
  have n1 : numN 2 n W = numN 3 n W := by simp only [numN, hiI, loI, dX, dY, Int.reduceLT, Int.reduceNeg, reduceIte]; omega
  have n2 : numN 4 n W = numN 6 n W := by simp only [numN, hiI, loI, dX, dY, Int.reduceLT, Int.reduceNeg, reduceIte]; omega
  constructor
  · unfold dsL dlL; rw [n1]; refine rows_ext fun k _ => dv_mir hb fun i j _ _ => ?_
    have : posN 2 W i (W - 1 - j) = posN 3 W i j := by simp only [posN, lnI, loI, dX, dY, Int.reduceLT, Int.reduceNeg, reduceIte]; omega
    rw [this]
  · unfold dsL dlL; rw [n2]; refine rows_ext fun k _ => dv_mir hb fun i j _ _ => ?_
    have : posN 4 W i (W - 1 - j) = posN 6 W i j := by simp only [posN, lnI, loI, dX, dY, Int.reduceLT, Int.reduceNeg, reduceIte]; omega
    rw [this]
theorem ds_turn3 {W n : Nat} {xs : List Int} (h : Im W n xs) : dsL 3 (turnL xs W n) n W = dsL 3 xs W n := by
  have n1 : numN 3 W n = numN 3 n W := by simp only [numN, hiI, loI, dX, dY, Int.reduceLT, Int.reduceNeg, reduceIte]; omega
  unfold dsL dlL; rw [n1]; refine rows_ext fun k _ => dv_turn (fun i j hi hj => h.turn_bit hi hj) fun i j _ _ => ?_
  have : posN 3 n j i = posN 3 W i j := by simp only [posN, lnI, loI, dX, dY, Int.reduceLT, Int.reduceNeg, reduceIte]; omega
  rw [this]
theorem num_45 (n W : Nat) : numN 4 W n = numN 5 n W := by simp only [numN, hiI, loI, dX, dY, Int.reduceLT, reduceIte]; omega
theorem ds_turn4 {W n : Nat} {xs : List Int} (h : Im W n xs) {k : Nat} (hk : k < numN 4 W n) : (dsL 4 (turnL xs W n) n W).getD k 0 = (dsL 5 xs W n).getD (numN 5 n W - 1 - k) 0 := by
  have hn := num_45 n W
  rw [ds_get hk, ds_get (by omega)]
  refine dv_turn (fun i j hi hj => h.turn_bit hi hj) fun i j hi hj => ?_
  have h1 := pos_num (d := 4) (by omega) hj hi
  have h2 := pos_num (d := 5) (by omega) hi hj
  have : posN 4 n j i + posN 5 W i j = numN 5 n W - 1 := by revert h1 h2; simp only [posN, numN, lnI, loI, hiI, dX, dY, Int.reduceLT, reduceIte]; omega
  omega
theorem ds_half {W n : Nat} {xs ys : List Int} {d k : Nat} (hd : d < 8) (h : ∀ i j, i < n → j < W → bvI ys (n - 1 - i) (W - 1 - j) = bvI xs i j) (hk : k < numN d n W) :
    (dsL d ys W n).getD k 0 = (dsL d xs W n).getD (numN d n W - 1 - k) 0 := by
  rw [ds_get hk, ds_get (by omega)]
  refine dv_half h fun i j hi hj => ?_
  have h1 := pos_num (n := n) (i := n - 1 - i) (j := W - 1 - j) (W := W) hd (by omega) (by omega)
  have h2 := pos_num (n := n) hd hi hj
  have : (lnI d (n - 1 - i : Nat) (W - 1 - j : Nat)) + lnI d i j = hiI d n W + loI d W := by
    refine dir_all (P := fun d => (lnI d (n - 1 - i : Nat) (W - 1 - j : Nat)) + lnI d i j = hiI d n W + loI d W) ?_ ?_ ?_ ?_ ?_ ?_ ?_ ?_ hd <;> simp only [lnI, loI, hiI, dX, dY, Int.reduceLT, Int.reduceNeg, reduceIte] <;> omega
  omega
theorem ds_oth {W n : Nat} {xs : List Int} {ys zs : List Int} (hy : ∀ i j, i < n → j < W → bvI ys i j = 1 - bvI xs i j) (hz : ∀ i j, i < n → j < W → bvI zs i j = 1) {d k : Nat} (hk : k < numN d n W) :
    (dsL d xs W n).getD k 0 + (dsL d ys W n).getD k 0 = (dsL d zs W n).getD k 0 := by
  rw [ds_get hk, ds_get hk, ds_get hk, dv_rows, dv_rows, dv_rows, ← sum_add]
  refine sum_ext fun i hi => ?_
  rw [← sum_add]
  exact sum_ext fun j hj => by
    rw [hy i j hi hj, hz i j hi hj]
    by_cases p : posN d W i j = k
    · simp only [p, if_true]; omega
    · simp only [p, if_false]; omega
theorem sum_low {f : Nat → Int} {k : Nat} (h : ∀ i, i < k → 0 ≤ f i) : 0 ≤ sumI f k := by
  induction k with
  | zero => exact Int.le_refl _
  | succ k ih => have := ih fun i hi => h i (by omega); have := h k (by omega); simp only [sumI]; omega
theorem ds_nn {W n d k : Nat} {xs : List Int} (hk : k < numN d n W) : 0 ≤ (dsL d xs W n).getD k 0 := by
  rw [ds_get hk]; exact sum_low fun i _ => sum_low fun j _ => by have := bv_01 xs i j; by_cases p : posN d W i j = k <;> simp [p]; omega
/-- At most one cell of a row is on a line that is not level. -/
theorem rc_one {xs : List Int} {d W i k : Nat} (hd : d < 8) (h0 : dY d ≠ 0) : rcI (bvI xs) d W i W k ≤ 1 := by
  have key : ∀ m, m ≤ W → rcI (bvI xs) d W i m k ≤ if ∃ j, j < m ∧ posN d W i j = k then 1 else 0 := by
    intro m hm
    induction m with
    | zero => simp [rcI, sumI]
    | succ m ih =>
      have h1 := ih (by omega)
      have hb := bv_01 xs i m
      have e : rcI (bvI xs) d W i (m + 1) k = rcI (bvI xs) d W i m k + if posN d W i m = k then bvI xs i m else 0 := rfl
      rw [e]
      by_cases p : posN d W i m = k
      · have hn : ¬ ∃ j, j < m ∧ posN d W i j = k := by
          rintro ⟨j, hj, hq⟩
          have a := (pos_num (n := i + 1) (i := i) (j := m) (W := W) hd (by omega) (by omega)).1
          have b := (pos_num (n := i + 1) (i := i) (j := j) (W := W) hd (by omega) (by omega)).1
          rw [p] at a; rw [hq] at b
          have c : lnI d i m = lnI d i j := by omega
          have : dY d * ((m : Int) - j) = 0 := by
            unfold lnI at c; have : dY d * ((m : Int) - j) = dY d * m - dY d * j := Int.mul_sub _ _ _
            omega
          rcases Int.mul_eq_zero.mp this with z | z
          · exact h0 z
          · omega
        rw [if_neg hn] at h1
        rw [if_pos p, if_pos ⟨m, by omega, p⟩]; omega
      · rw [if_neg p]
        by_cases hx : ∃ j, j < m ∧ posN d W i j = k
        · obtain ⟨j, hj, hq⟩ := hx
          rw [if_pos ⟨j, hj, hq⟩] at h1; rw [if_pos ⟨j, by omega, hq⟩]; omega
        · rw [if_neg hx] at h1
          by_cases hy : ∃ j, j < m + 1 ∧ posN d W i j = k
          · rw [if_pos hy]; omega
          · rw [if_neg hy]; omega
  have := key W (Nat.le_refl _)
  by_cases hx : ∃ j, j < W ∧ posN d W i j = k
  · rw [if_pos hx] at this; exact this
  · rw [if_neg hx] at this; omega
theorem sum_cap {f : Nat → Int} {k : Nat} (h : ∀ i, i < k → f i ≤ 1) : sumI f k ≤ k := by
  induction k with
  | zero => simp [sumI]
  | succ k ih => have := ih fun i hi => h i (by omega); have := h k (by omega); simp only [sumI]; omega
theorem ds_short {W n d k : Nat} {xs : List Int} (hd : d < 8) (hk : k < numN d n W) : (dsL d xs W n).getD k 0 ≤ max (n : Int) W := by
  by_cases h0 : dY d = 0
  · have : d = 0 := by
      rcases (show d = 0 ∨ d = 1 ∨ d = 2 ∨ d = 3 ∨ d = 4 ∨ d = 5 ∨ d = 6 ∨ d = 7 by omega) with r | r | r | r | r | r | r | r <;> subst r <;> simp [dY] at h0 ⊢
    subst this
    rw [ds_row, rs_get (by rw [(num_01 n W).1] at hk; exact hk)]
    have := (cnt_bd (xs.getD k 0) W).2; omega
  · rw [ds_get hk]
    have : dlI (bvI xs) d W n k ≤ n := sum_cap fun i _ => rc_one hd h0
    omega
end Go.Proofs.Ytemmfnlnhekclaa

