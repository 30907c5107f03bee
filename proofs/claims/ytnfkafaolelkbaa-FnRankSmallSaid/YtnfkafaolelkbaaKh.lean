/-
  Plain facts that the laws of chapter 11 ask: nested images, bounds, switches of other rows.
-/
import Derived.Test.YtnfkafaolelkbaaKc
namespace Go.Proofs.Ytnfkafaolelkbaa
set_option maxRecDepth 100000
open Go.RowKit

theorem nest_cell {xs : List Int} {W i j : Nat} (hW : W ≤ 6) (hi : i < xs.length) (hj : j < W) : cellOf (nestL xs W) i j = decide ((j : Int) < xs.getD i 0) := by
  apply bI_inj
  rw [← cell_bit]
  unfold nestL
  rw [cells_bit hW hi hj]
  rfl
theorem many_nest {xs : List Int} {W n : Nat} (hW : W ≤ 6) (hl : xs.length = n) : manyC (cellOf (nestL xs W)) W n = 0 := by
  refine many_nested fun i k hi hk => ?_
  rcases Int.le_total (xs.getD i 0) (xs.getD k 0) with h | h
  · left; intro j hj he
    rw [nest_cell hW (by omega) hj, decide_eq_true_iff] at he ⊢
    omega
  · right; intro j hj he
    rw [nest_cell hW (by omega) hj, decide_eq_true_iff] at he ⊢
    omega
/-- The two bounds of P71. -/
theorem many_bounds {W n : Nat} {xs : List Int} {K : Int} (h : Im W n xs) (hK : manyC (cellOf xs) W n = K) : K ≤ ((n * (n - 1) / 2 * (W * W / 4) : Nat) : Int) ∧ 4 * K ≤ ((n * n * W * W : Nat) : Int) := by
  have h1 := many_le (cellOf xs) (W := W) (n := n) (by have := h.w6; omega) (by have := h.l6; omega)
  have h2 := many_four n (by have := h.l6; omega) W (by have := h.w6; omega)
  rw [hK] at h1
  refine ⟨h1, ?_⟩
  omega
theorem bnd_num : ∀ n, n < 7 → ∀ W, W < 7 → wrap64 (wrap64 (wrap64 (((n : Nat) : Int) * ((n : Nat) : Int)) * ((W : Nat) : Int)) * ((W : Nat) : Int)) = ((n * n * W * W : Nat) : Int) ∧ ((n * n * W * W : Nat) : Int) ≤ 1296 := by decide +kernel
theorem bnd_num2 : ∀ n, 1 ≤ n → n < 7 → ∀ W, W < 7 → wrap64 (wrap64 ((wrap64 (((n : Nat) : Int) * (((n : Nat) : Int) - 1))).tdiv 2) * wrap64 ((wrap64 (((W : Nat) : Int) * ((W : Nat) : Int))).tdiv 4)) = ((n * (n - 1) / 2 * (W * W / 4) : Nat) : Int) := by
  intro n h1 hn W hW
  have : ∀ n, n < 7 → ∀ W, W < 7 → (1 ≤ n → wrap64 (wrap64 ((wrap64 (((n : Nat) : Int) * (((n : Nat) : Int) - 1))).tdiv 2) * wrap64 ((wrap64 (((W : Nat) : Int) * ((W : Nat) : Int))).tdiv 4)) = ((n * (n - 1) / 2 * (W * W / 4) : Nat) : Int)) := by decide +kernel
  exact this n hn W hW h1
theorem line_le1 {K : Int} {q : Nat} {Q : Int} (h0 : 0 ≤ K) (h : 4 * K ≤ (q : Int)) (e : Q = (q : Int) ∧ (q : Int) ≤ 1296) : wrap64 (4 * K) ≤ Q := by
  have : wrap64 (4 * K) = 4 * K := by unfold wrap64; omega
  omega
/-- What equal pictures have. -/
theorem cells_eq {c d : Nat → Nat → Bool} {W n : Nat} (h : ∀ i j, i < n → j < W → c i j = d i j) : cellsL c W n = cellsL d W n := by
  unfold cellsL rowsL
  refine List.map_congr_left fun i hi => ?_
  have hi := List.mem_range.1 hi
  have key : ∀ k, k ≤ W → rowN (c i) k = rowN (d i) k := fun k => by
    induction k with
    | zero => intro _; rfl
    | succ k ih => intro hk; simp only [rowN]; rw [ih (by omega), h i k hi (by omega)]
  exact key W (Nat.le_refl _)
/-- Switches of other rows have any order. -/
theorem fl_order {W n : Nat} {xs : List Int} (h : Im W n xs) {A B C D A' B' C' D' : Nat} (h1 : A' ≠ A) (h2 : A' ≠ B) (h3 : B' ≠ A) (h4 : B' ≠ B) :
    flL (flL xs W n A B C D) W n A' B' C' D' = flL (flL xs W n A' B' C' D') W n A B C D := by
  have e : ∀ (P Q R S A B C D : Nat), flL (flL xs W n P Q R S) W n A B C D = cellsL (flC (flC (cellOf xs) P Q R S) A B C D) W n := fun P Q R S A B C D => by
    show cellsL (flC (cellOf (flL xs W n P Q R S)) A B C D) W n = _
    refine cells_eq fun i j hi hj => ?_
    unfold flC
    rw [fl_cell h hi hj]
    rfl
  rw [e, e, fl_comm h1 h2 h3 h4]
theorem sw_far {W n : Nat} {xs : List Int} (h : Im W n xs) {A B C D A' B' C' D' : Nat} (hA : A' < n) (hB : B' < n) (hC : C' < W) (hD : D' < W) (h1 : A' ≠ A) (h2 : A' ≠ B) (h3 : B' ≠ A) (h4 : B' ≠ B) :
    swC (cellOf (flL xs W n A B C D)) A' B' C' D' = swC (cellOf xs) A' B' C' D' := by
  rw [← sw_apart (c := cellOf xs) (C := C) (D := D) h1 h2 h3 h4]
  exact sw_ext (fl_cell h hA hC) (fl_cell h hB hD) (fl_cell h hA hD) (fl_cell h hB hC)
theorem list_im {W n : Nat} {xs : List Int} (h : Im W n xs) : listS W xs = swL (cellOf xs) W n := by
  unfold listS; rw [if_pos h.valid, Int.toNat_natCast, h.hl]
/-- A list of switches given. -/
def GivesSw (w : World) (N : Nat) (L : List SwT) (e : Ending) (w' : World) : Prop :=
  (∃ a cap, e = .returned (.slice a N cap) ∧ SRow w' a N L) ∧ Below w.heap.size w w'
theorem swlist_sN {W : Int} {xs : List Int} {L : List SwT} {n N : Nat} (hL : listS W xs = L) (hN : L.length = N) (hn : n ≤ 6) (s : Option Addr) (cg : Nat) (w : World) (hR : Row w s n xs) :
    Calls Try.prog 78 #[.agg #[.int .i64 W, .slice s n cg]] w (GivesSw w N L) := by
  have hc := swlist_spec W s n cg xs w hR (by omega)
  rw [hL] at hc
  exact hc.mono fun e w' ⟨⟨a, c, he, ho⟩, hb⟩ => ⟨⟨a, c, by rw [← hN]; exact he, by rw [← hN]; exact ho.row⟩, hb⟩
theorem srow_at {w : World} {a : Option Addr} {N : Nat} {L : List SwT} (h : SRow w a N L) {q : Nat} (hq : q < N) {P Q R S : Nat} (e : L[q]'(by rw [h.1]; exact hq) = (P, Q, R, S)) :
    ∃ g, a = some ⟨g, 0, none⟩ ∧ w.cell? ⟨g, q * 4, none⟩ = some (.int .i64 P) ∧ w.cell? ⟨g, q * 4 + 1, none⟩ = some (.int .i64 Q) ∧ w.cell? ⟨g, q * 4 + 2, none⟩ = some (.int .i64 R) ∧ w.cell? ⟨g, q * 4 + 3, none⟩ = some (.int .i64 S) := by
  rcases h.2 with h0 | ⟨g, ea, hc⟩
  · omega
  · have hh := hc q (by rw [h.1]; exact hq)
    rw [e] at hh
    exact ⟨g, ea, hh⟩
theorem list_len {W : Int} {xs : List Int} {n : Nat} (hl : xs.length = n) (hn : n ≤ 6) : (listS W xs).length ≤ 135 := by
  unfold listS
  split
  · rename_i hv
    have h1 := validB_W hv
    obtain ⟨W, rfl⟩ := Int.eq_ofNat_of_zero_le (by omega : 0 ≤ W)
    have := (Im.of hv rfl).w6
    exact swl_135 _ (by simp; omega) (by omega)
  · simp
end Go.Proofs.Ytnfkafaolelkbaa

