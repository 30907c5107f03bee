/-
  Plain facts on the images in which a cell is set.
-/
import Derived.Test.YtmfncheimmcobaaJd
import Derived.Test.YtmfncheimmcobaaVa
namespace Go.Proofs.Ytmfncheimmcobaa
set_option maxRecDepth 100000

/-- The images with given sums in which a cell is set. -/
def cntC (rows cols : List Int) (i j : Nat) : Int := nOf (fun xs => fitP rows cols cols.length rows.length xs && cellOf xs i j) cols.length rows.length
theorem suml_mul {α : Type} (c : Int) (F : α → Int) : ∀ xs : List α, sumL (fun x => c * F x) xs = c * sumL F xs
  | [] => by simp [sumL]
  | x :: xs => by simp only [sumL]; rw [suml_mul c F xs, Int.mul_add]
theorem suml_sub {α : Type} (F G : α → Int) : ∀ xs : List α, sumL (fun x => F x - G x) xs = sumL F xs - sumL G xs
  | [] => by simp [sumL]
  | x :: xs => by simp only [sumL]; rw [suml_sub F G xs]; omega
theorem cell_nn (rows cols : List Int) (i j : Nat) : 0 ≤ cntC rows cols i j := nOf_nn ..
theorem cell_row {rows cols : List Int} {i : Nat} (hi : i < rows.length) : sumI (fun j => cntC rows cols i j) cols.length = rows.getD i 0 * cntS rows cols := by
  unfold cntC cntS nOf
  rw [suml_swap (fun j xs => bI (fitP rows cols cols.length rows.length xs && cellOf xs i j)), ← suml_mul]
  refine suml_ext fun xs _ => ?_
  (try dsimp only)
  cases e : fitP rows cols cols.length rows.length xs with
  | false =>
    rw [show (fun j => bI (false && cellOf xs i j)) = fun _ => 0 from funext fun j => rfl, sum_zero]
    simp [bI]
  | true =>
    have h1 := (fitP_iff.1 e).1
    have h2 := rs_cells xs cols.length rows.length i hi
    rw [h1] at h2
    rw [h2, sum_ext (g := fun j => bI (cellOf xs i j)) fun j _ => by rw [Bool.true_and]]
    simp [bI]
theorem cell_col {rows cols : List Int} {j : Nat} (hj : j < cols.length) : sumI (fun i => cntC rows cols i j) rows.length = cols.getD j 0 * cntS rows cols := by
  unfold cntC cntS nOf
  rw [suml_swap (fun i xs => bI (fitP rows cols cols.length rows.length xs && cellOf xs i j)), ← suml_mul]
  refine suml_ext fun xs _ => ?_
  (try dsimp only)
  cases e : fitP rows cols cols.length rows.length xs with
  | false =>
    rw [show (fun i => bI (false && cellOf xs i j)) = fun _ => 0 from funext fun i => rfl, sum_zero]
    simp [bI]
  | true =>
    have h1 := (fitP_iff.1 e).2
    have h2 := cs_cells xs cols.length rows.length j hj
    rw [h1] at h2
    rw [h2, sum_ext (g := fun i => bI (cellOf xs i j)) fun i _ => by rw [Bool.true_and]]
    simp [bI]
theorem cell_all (rows cols : List Int) : sumI (fun i => sumI (fun j => cntC rows cols i j) cols.length) rows.length = lsum rows * cntS rows cols := by
  rw [sum_ext (g := fun i => rows.getD i 0 * cntS rows cols) fun i hi => cell_row hi, sum_mul, lsum_rows]
theorem cell_le (rows cols : List Int) (i j : Nat) : cntC rows cols i j ≤ cntS rows cols := nOf_sub fun _ h => (Bool.and_eq_true _ _ ▸ h).1
theorem cell_not (rows cols : List Int) (i j : Nat) : nOf (fun xs => fitP rows cols cols.length rows.length xs && !cellOf xs i j) cols.length rows.length = cntS rows cols - cntC rows cols i j := by
  unfold cntS cntC nOf
  rw [← suml_sub]
  refine suml_ext fun xs _ => ?_
  (try dsimp only)
  cases fitP rows cols cols.length rows.length xs <;> cases cellOf xs i j <;> rfl
theorem cell_turn {rows cols : List Int} (hs : sumsB rows cols = true) {i j : Nat} (hi : i < rows.length) (hj : j < cols.length) : cntC cols rows j i = cntC rows cols i j := by
  have hs' := sumsB_flip hs
  refine nOf_eq (fun xs => turnL xs rows.length cols.length) (fun xs => turnL xs cols.length rows.length) (fun xs hx hp => ?_) fun xs hx hp => ?_
  · rw [Bool.and_eq_true] at hp
    have hI := im_fit hs' hx
    obtain ⟨h1, h2⟩ := fitP_iff.1 hp.1
    have := fit_im hI.turn (hI.turn_rs.trans h2) (hI.turn_cs.trans h1)
    exact ⟨this.1, by rw [this.2, turn_cell hI hj hi, hp.2]; rfl, hI.turn_turn⟩
  · rw [Bool.and_eq_true] at hp
    have hI := im_fit hs hx
    obtain ⟨h1, h2⟩ := fitP_iff.1 hp.1
    have := fit_im hI.turn (hI.turn_rs.trans h2) (hI.turn_cs.trans h1)
    exact ⟨this.1, by rw [this.2, turn_cell hI hi hj, hp.2]; rfl, hI.turn_turn⟩
theorem cell_rest {rows cols : List Int} (hs : sumsB rows cols = true) {i j : Nat} (hi : i < rows.length) (hj : j < cols.length) : cntC (restL rows cols.length) (restL cols rows.length) i j = cntS rows cols - cntC rows cols i j := by
  rw [← cell_not]
  have hs' := rest_valid hs
  have e1 := rest_len rows cols.length
  have e2 := rest_len cols rows.length
  unfold cntC
  rw [e1, e2]
  refine nOf_eq (fun xs => othL xs cols.length rows.length) (fun xs => othL xs cols.length rows.length) (fun xs hx hp => ?_) fun xs hx hp => ?_
  · rw [Bool.and_eq_true] at hp
    have hI := im_fit hs hx
    have := rest_fit hs' (xs := xs) (by rw [e1, e2]; exact hx) (by rw [e1, e2]; exact hp.1)
    rw [e1, e2, rest_rest, rest_rest] at this
    exact ⟨this.1, by rw [this.2, oth_cell hI hi hj, hp.2]; rfl, hI.oth_oth⟩
  · rw [Bool.and_eq_true] at hp
    have hI := im_fit hs hx
    have := rest_fit hs hx hp.1
    exact ⟨this.1, by rw [this.2, oth_cell hI hi hj]; simpa using hp.2, hI.oth_oth⟩
/-- The ways with a set cell, its row ahead. -/
def cellW (W : Nat) (r : Int) (j : Nat) (others cols : List Int) : Int :=
  sumI (fun m => if (cntI m W = r ∧ bitI m j = 1) ∧ takeB cols m = true then wayI W others (takeI cols m) else 0) (pn W)
theorem cellw_num {cols others : List Int} {r : Int} (j : Nat) :
    cellW cols.length r j others cols = nOf (fun xs => fitP (r :: others) cols cols.length (others.length + 1) xs && cellOf xs 0 j) cols.length (others.length + 1) := by
  rw [nOf_succ]
  refine sum_ext fun m _ => ?_
  (try dsimp only)
  have ec : ∀ ys : List Int, cellOf ((m : Int) :: ys) 0 j = decide (bitI m j = 1) := fun ys => rfl
  rw [nOf_ext (Q := fun ys => (decide (cntI m cols.length = r ∧ takeB cols m = true) && decide (bitI m j = 1)) && fitP others (takeI cols m) cols.length others.length ys) fun ys _ => by
    rw [fit_cons rfl, ec, Bool.and_assoc, Bool.and_assoc, Bool.and_comm (fitP _ _ _ _ _)]]
  by_cases h : (cntI m cols.length = r ∧ bitI m j = 1) ∧ takeB cols m = true
  · rw [if_pos h, way_num cols.length others (takeI cols m) (took_len ..)]
    · refine nOf_ext fun ys _ => ?_
      rw [decide_eq_true (p := cntI m cols.length = r ∧ takeB cols m = true) ⟨h.1.1, h.2⟩, decide_eq_true h.1.2]; rfl
    · intro j hj
      rw [took_get _ hj]
      have := of_decide_eq_true h.2 j hj
      omega
  · rw [if_neg h]
    rw [nOf_ext (Q := fun _ => false) fun ys _ => by
      have : (decide (cntI m cols.length = r ∧ takeB cols m = true) && decide (bitI m j = 1)) = false := by
        rw [Bool.eq_false_iff]
        intro hc
        rw [Bool.and_eq_true, decide_eq_true_eq, decide_eq_true_eq] at hc
        exact h ⟨⟨hc.1.1, hc.2⟩, hc.1.2⟩
      rw [this]; rfl]
    exact (nOf_false ..).symm
theorem ins_front {α : Type} (m : α) (xs : List α) : insL 0 m xs = m :: xs := rfl
theorem fit_move {rows cols ys : List Int} {W k : Nat} {r m : Int} (hl : cols.length = W) (hk : k ≤ rows.length) (hy : ys.length = rows.length) :
    fitP (insL k r rows) cols W (rows.length + 1) (insL k m ys) = true ↔ fitP (r :: rows) cols W (rows.length + 1) (m :: ys) = true := by
  rw [fitP_iff, fitP_iff, rs_map (by rw [ins_len m (by omega), hy]), rs_map (by rw [List.length_cons, hy]), ins_map, ins_inj (by rw [List.length_map, hy]), cs_iff hl, cs_iff hl, List.map_cons]
  simp only [List.cons.injEq]
  constructor
  · rintro ⟨a, b⟩
    refine ⟨a, fun j hj => ?_⟩
    have := b j hj
    rw [csI_ins m j hy hk] at this
    rw [csI_cons]; exact this
  · rintro ⟨a, b⟩
    refine ⟨a, fun j hj => ?_⟩
    have := b j hj
    rw [csI_cons] at this
    rw [csI_ins m j hy hk]; exact this
/-- CellCount of the model. -/
theorem cell_way {rows cols : List Int} {i : Nat} (j : Nat) (hi : i < rows.length) : cellW cols.length (rows.getD i 0) j (delL i rows) cols = cntC rows cols i j := by
  have hd := del_len hi
  have e := ins_del hi
  rw [cellw_num j]
  unfold cntC
  rw [← hd]
  refine nOf_eq (fun xs => insL i (xs.getD 0 0) (delL 0 xs)) (fun xs => xs.getD i 0 :: delL i xs) (fun xs hx hp => ?_) fun xs hx hp => ?_
  · rw [Bool.and_eq_true] at hp
    obtain ⟨hx1, hx2, hx3⟩ := del_mem (k := 0) (by omega) hx
    obtain ⟨hl, _⟩ := imgs_mem.1 hx
    obtain ⟨hl', _⟩ := imgs_mem.1 hx1
    have ex := ins_del (xs := xs) (k := 0) (by omega)
    rw [ins_front] at ex
    obtain ⟨d1, d2⟩ := del_ins (xs := delL 0 xs) (k := i) (xs.getD 0 0) (by omega)
    refine ⟨ins_mem hx2 hx3 (by omega) hx1, ?_, ?_⟩
    · rw [Bool.and_eq_true]
      refine ⟨?_, ?_⟩
      · have := (fit_move (rows := delL i rows) (cols := cols) (ys := delL 0 xs) (k := i) (r := rows.getD i 0) (m := xs.getD 0 0) rfl (by omega) hl').2 (by rw [ex]; exact hp.1)
        rwa [e] at this
      · have e3 : cellOf (insL i (xs.getD 0 0) (delL 0 xs)) i j = cellOf xs 0 j := by unfold cellOf; rw [d2]
        rw [e3]; exact hp.2
    · (try dsimp only)
      rw [d1, d2, ex]
  · rw [Bool.and_eq_true] at hp
    obtain ⟨hx1, hx2, hx3⟩ := del_mem (k := i) (by omega) hx
    obtain ⟨hl, _⟩ := imgs_mem.1 hx
    obtain ⟨hl', _⟩ := imgs_mem.1 hx1
    have ex := ins_del (xs := xs) (k := i) (by omega)
    refine ⟨ins_mem (k := 0) hx2 hx3 (by omega) hx1, ?_, ?_⟩
    · rw [Bool.and_eq_true]
      refine ⟨?_, ?_⟩
      · refine (fit_move (rows := delL i rows) (cols := cols) (ys := delL i xs) (k := i) (r := rows.getD i 0) (m := xs.getD i 0) rfl (by omega) hl').1 ?_
        rw [ex, e]; exact hp.1
      · exact hp.2
    · exact ex

end Go.Proofs.Ytmfncheimmcobaa

