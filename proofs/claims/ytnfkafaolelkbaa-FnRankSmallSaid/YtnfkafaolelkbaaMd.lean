/-
  Two lists that a call owns beside each other: cells are stored into the one, the other one is appended to; flags by their numbers.
  The contracts of the model's l13Arrow and l13Parents.
  The contracts of the model's l13Ends, l13Turn, CellVariable, CellsVariable and CellFlip.
-/
import Derived.Test.YtnfkafaolelkbaaMa
import Derived.Test.YtnfkafaolelkbaaK
import Derived.Test.YtnfkafaolelkbaaPa
import Derived.Test.YtnfkafaolelkbaaSh
import Derived.Test.YtnfkafaolelkbaaSk
import Derived.Test.YtnfkafaolelkbaaKa

namespace Go.Proofs.Ytnfkafaolelkbaa
set_option maxRecDepth 100000
open Go.RowKit

/-- Behind the world w0: the list P lies at g1, the list Q at g2. -/
structure TW (w0 wr : World) (m g1 c1 q g2 c2 : Nat) (P Q : List Int) : Prop where
  out : OwnI wr w0.heap.size (some ⟨g1, 0, none⟩) m c1 P
  wk : OwnI wr w0.heap.size (some ⟨g2, 0, none⟩) q c2 Q
  bel : Below w0.heap.size w0 wr
  ne : g1 ≠ g2
variable {w0 wr w1 : World} {m g1 c1 q g2 c2 : Nat} {P Q : List Int}
theorem TW.move (h : TW w0 wr m g1 c1 q g2 c2 P Q) (hb : Below wr.heap.size wr w1) : TW w0 w1 m g1 c1 q g2 c2 P Q :=
  ⟨h.out.bel hb, h.wk.bel hb, h.bel.trans (hb.mono h.bel.size), h.ne⟩
theorem TW.o1 (h : TW w0 wr m g1 c1 q g2 c2 P Q) : w0.heap.size ≤ g1 ∧ g1 < wr.heap.size := rng_own h.out _ rfl
theorem TW.o2 (h : TW w0 wr m g1 c1 q g2 c2 P Q) : w0.heap.size ≤ g2 ∧ g2 < wr.heap.size := rng_own h.wk _ rfl
theorem TW.set (h : TW w0 wr m g1 c1 q g2 c2 P Q) (j : Nat) (u : Int) : TW w0 (wr.setCell ⟨g1, j, none⟩ (.int .i64 u)) m g1 c1 q g2 c2 (P.set j u) Q := by
  have hg : wr.grownBy (wr.setCell ⟨g1, j, none⟩ (.int .i64 u)) (some g1) := grown_set (World.grownBy.refl _ _)
  exact ⟨h.out.set j u, World.ownsRow.kept h.wk hg (.inr (by intro e; cases e; exact h.ne rfl)), h.bel.setCell (show w0.heap.size ≤ g1 from h.o1.1) _, h.ne⟩
theorem TW.app (h : TW w0 wr m g1 c1 q g2 c2 P Q) {g c : Nat} {x : Int} (ho : w1.ownsRow w0.heap.size 3 1 (.slice (some ⟨g, 0, none⟩) (q + 1) c) (q + 1) ((Q ++ [x]).map (Value.int .i64))) (hg : wr.grownBy w1 (some g2)) (hgg : g = g2 ∨ wr.heap.size ≤ g) : TW w0 w1 m g1 c1 (q + 1) g c P (Q ++ [x]) :=
  ⟨World.ownsRow.kept h.out hg (.inr (by intro e; cases e; exact h.ne rfl)), ho, h.bel.grown hg h.bel.size (fun k hk => by cases hk; exact h.o2.1), by
    have := h.o1
    rcases hgg with rfl | hgg
    · exact h.ne
    · omega⟩
theorem bfs_next {arr : Nat → Nat → Bool} {m a f : Nat} {S : List Int × List Int} (ha : a < (bfsK arr m S a).2.length) (hf : (bfsK arr m S a).2.getD a 0 = f) : bfsK arr m S (a + 1) = seeK arr f m (bfsK arr m S a) := by
  rw [bfsK, if_pos ha, hf, Int.toNat_natCast]
theorem see_yes {arr : Nat → Nat → Bool} {f k : Nat} {S : List Int × List Int} (h : arr f k = true) (h' : (seeK arr f k S).1.getD k 0 < 0) : seeK arr f (k + 1) S = ((seeK arr f k S).1.set k (f : Int), (seeK arr f k S).2 ++ [(k : Int)]) := by
  rw [seeK, if_pos ⟨h, h'⟩]
theorem see_no {arr : Nat → Nat → Bool} {f k : Nat} {S : List Int × List Int} (h : arr f k = false ∨ ¬ (seeK arr f k S).1.getD k 0 < 0) : seeK arr f (k + 1) S = seeK arr f k S := by
  rw [seeK, if_neg]
  rintro ⟨h1, h2⟩
  rcases h with h | h
  · rw [h] at h1; cases h1
  · exact h h2
/-- A number is appended to a list that the call owns. -/
theorem wpList_append_int {w : World} {ops : Array Oper} {rest : List Oper} {o : Oper} {a : Act} {Q : Exit → Act → World → Prop} (hgd : o.guard = none) (s x : Operand)
    (ho : o.op = .call { callee := .builtin .append, args := #[s, x], argTypes := #[23, 23] })
    (base g N c : Nat) (F : List Int) (hs : a.eval s = .slice (some ⟨g, 0, none⟩) N c) (hown : OwnI w base (some ⟨g, 0, none⟩) N c F)
    (k : Nat) (hx : a.eval x = .slice (some ⟨k, 0, none⟩) 1 1) (v : Int) (c0 : w.cell? ⟨k, 0, none⟩ = some (.int .i64 v)) (hN : N ≤ 1048576) (hbase : base ≤ w.heap.size)
    (h : ∀ g' c' w', w'.ownsRow base 3 1 (.slice (some ⟨g', 0, none⟩) (N + 1) c') (N + 1) ((F ++ [v]).map (Value.int .i64)) → w.grownBy w' (some g) → (g' = g ∨ g' = w.heap.size) → wpList Try.prog ops Q rest (a.put o.dst (.slice (some ⟨g', 0, none⟩) (N + 1) c')) w') :
    wpList Try.prog ops Q (o :: rest) a w := by
  obtain ⟨i0, hi, hz0, hz1, hz2⟩ := info_parts infoInt
  refine wpList_append_lies hgd s x 23 ho base 3 i0 (.int .i64 0) 1 8 Try.underlying23 hi hz0 hz1 hz2 rfl (by decide) _ N (F.map (Value.int .i64)) hs hown
    ⟨k, 0, none⟩ 1 1 [.int .i64 v] hx rfl (fun j u hj => ?_) (one_int v) (by omega) (by unfold maxLen; omega) (by omega) hbase fun g' c' w' h2 h3 h4 => h g' c' w' ?_ ?_ ?_
  · cases j with
    | zero => simp at hj; subst hj; simpa [Addr.add] using c0
    | succ j => simp at hj
  · rw [List.map_append]; exact h2
  · exact h3
  · rcases h4 with h | h
    · left; simp [Value.ownBlock] at h; exact h.symm
    · exact .inr h
end Go.Proofs.Ytnfkafaolelkbaa

namespace Go.Proofs.Ytnfkafaolelkbaa
set_option maxRecDepth 100000
open Go.RowKit

theorem bit_one (xs : List Int) (i j : Nat) : (bitI (xs.getD i 0) j == 1) = cellOf xs i j := by
  unfold cellOf; rw [Bool.eq_iff_iff]; simp
theorem bit_zero (xs : List Int) (i j : Nat) : (bitI (xs.getD i 0) j == 0) = !cellOf xs i j := by
  have := bit_01 (xs.getD i 0) j
  unfold cellOf
  rcases (show bitI (xs.getD i 0) j = 0 ∨ bitI (xs.getD i 0) j = 1 by omega) with e | e <;> rw [e] <;> rfl
theorem rep_snoc (k : Nat) (x : Int) : List.replicate (k + 1) x = List.replicate k x ++ [x] := List.replicate_succ'
end Go.Proofs.Ytnfkafaolelkbaa

namespace Go.Proofs.Ytnfkafaolelkbaa
set_option maxRecDepth 100000
open Go.RowKit

/-- Whether a cell is variable, whatever the arguments are. -/
def varO (W : Int) (xs : List Int) (i j : Int) : Bool := validB W xs && (cellB W xs.length i j && varB xs W.toNat xs.length i.toNat j.toNat)
theorem varO_no {W : Int} {xs : List Int} {i j : Int} (h : ¬ (validB W xs = true ∧ cellB W xs.length i j = true)) : varO W xs i j = false := by
  unfold varO
  cases e1 : validB W xs with
  | false => rfl
  | true =>
    cases e2 : cellB W xs.length i j with
    | false => rfl
    | true => exact absurd ⟨e1, e2⟩ h
theorem varO_nat {W n : Nat} {xs : List Int} (h : Im W n xs) {i j : Nat} (hi : i < n) (hj : j < W) : varO W xs i j = varB xs W n i j := by
  unfold varO
  rw [h.valid, h.hl, cellB_iff.2 ⟨by omega, by omega, by omega, by omega⟩]
  simp
theorem varO_im {W : Int} {n : Nat} {xs : List Int} {i j : Int} (hl : xs.length = n) (h : varO W xs i j = true) : ∃ (V k l : Nat), W = V ∧ i = k ∧ j = l ∧ Im V n xs ∧ k < n ∧ l < V ∧ varB xs V n k l = true := by
  unfold varO at h
  simp only [Bool.and_eq_true] at h
  obtain ⟨hv, hc, hb⟩ := h
  have hc := cellB_iff.1 hc
  have hI0 := validB_W hv
  obtain ⟨V, rfl⟩ := Int.eq_ofNat_of_zero_le (by omega : 0 ≤ W)
  obtain ⟨k, rfl⟩ := Int.eq_ofNat_of_zero_le hc.1
  obtain ⟨l, rfl⟩ := Int.eq_ofNat_of_zero_le hc.2.2.1
  rw [hl] at hb hc
  exact ⟨V, k, l, rfl, rfl, rfl, Im.of hv hl, by omega, by omega, by simpa using hb⟩
theorem put_tog {W n : Nat} {xs : List Int} (h : Im W n xs) {i j : Nat} (hi : i < n) (hj : j < W) : putL xs i j (!cellOf xs i j) = togL xs W n i j := by
  refine im_cell_ext (h.put hi hj _) (tog_im h i j) fun a b ha hb => ?_
  rw [tog_cell h ha hb]
  have := h.put_bit hi hj ha hb (!cellOf xs i j)
  show decide (_ = (1 : Int)) = _
  rw [this]
  unfold togC
  by_cases e : a = i ∧ b = j
  · rw [if_pos e, if_pos e, e.1, e.2]; cases cellOf xs i j <;> rfl
  · rw [if_neg e, if_neg e]; rfl
def varsO (W : Int) (xs : List Int) : Out := if validB W xs = true then ⟨true, W, varL xs W.toNat xs.length⟩ else .no
/-- The cells of the first rows, and of the next one the first columns. -/
def upV (v : Nat → Nat → Bool) (i j a b : Nat) : Bool := (decide (a < i) || (decide (a = i) && decide (b < j))) && v a b
theorem upv_put {W n i j : Nat} {v : Nat → Nat → Bool} (h1 : 1 ≤ W) (h2 : W ≤ 6) (h3 : 1 ≤ n) (h4 : n ≤ 6) (hi : i < n) (hj : j < W) : putL (cellsL (upV v i j) W n) i j (v i j) = cellsL (upV v i (j + 1)) W n := by
  have hI := cells_im (upV v i j) h1 h2 h3 h4
  refine im_cell_ext (hI.put hi hj _) (cells_im _ h1 h2 h3 h4) fun a b ha hb => ?_
  have e1 := hI.put_bit hi hj ha hb (v i j)
  have e2 := cells_bit (c := upV v i j) h2 ha hb
  have e3 := cells_bit (c := upV v i (j + 1)) h2 ha hb
  show decide (_ = (1 : Int)) = decide (_ = (1 : Int))
  rw [e1, e2, e3]
  by_cases e : a = i ∧ b = j
  · rw [if_pos e]
    obtain ⟨rfl, rfl⟩ := e
    have : upV v a (b + 1) a b = v a b := by unfold upV; simp
    rw [this]
  · rw [if_neg e]
    have : upV v i (j + 1) a b = upV v i j a b := by
      unfold upV
      congr 1
      rw [Bool.eq_iff_iff]
      simp only [Bool.or_eq_true, Bool.and_eq_true, decide_eq_true_eq]
      omega
    rw [this]
theorem upv_row {W n i : Nat} (v : Nat → Nat → Bool) : cellsL (upV v i W) W n = cellsL (upV v (i + 1) 0) W n := cells_ext fun a b ha hb => by
  unfold upV
  congr 1
  rw [Bool.eq_iff_iff]
  simp only [Bool.or_eq_true, Bool.and_eq_true, decide_eq_true_eq]
  omega
theorem upv_all {W n : Nat} (v : Nat → Nat → Bool) : cellsL (upV v n 0) W n = cellsL v W n := cells_ext fun a b ha hb => by
  unfold upV
  rw [show (decide (a < n) || (decide (a = n) && decide (b < 0))) = true by simp [ha]]; rfl
theorem upv_none {W n : Nat} (v : Nat → Nat → Bool) : cellsL (upV v 0 0) W n = List.replicate n 0 := by
  rw [← cells_none W n]
  exact cells_ext fun a b _ _ => by unfold upV; simp
def flipO (W : Int) (xs : List Int) (i j : Int) : Out := if varO W xs i j = true then ⟨true, W, flipL xs W.toNat xs.length i.toNat j.toNat⟩ else .no
end Go.Proofs.Ytnfkafaolelkbaa
