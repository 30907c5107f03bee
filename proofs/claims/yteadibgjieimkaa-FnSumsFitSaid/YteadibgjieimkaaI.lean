/-
  The contracts of the functions that give an image: turned, mirrored, with the other cells set, with a cell put.
-/
import Derived.Test.YteadibgjieimkaaH
import Derived.Deep.OwnRows
import Derived.Deep.DeepCutAuto
namespace Go.Proofs.Yteadibgjieimkaa
set_option maxRecDepth 100000
open Go.RowKit

/-- What a function that gives an image, or none, leaves. -/
structure Out where
  ok : Bool
  W : Int
  xs : List Int
def Out.no : Out := ⟨false, 0, []⟩
def Gives (w : World) (r : Out) (e : Ending) (w' : World) : Prop :=
  (∃ a cap, e = .returned (.tuple #[.agg #[.int .i64 r.W, .slice a r.xs.length cap], .bool r.ok]) ∧ OwnI w' w.heap.size a r.xs.length cap r.xs) ∧ Below w.heap.size w w'

theorem own_nil (w : World) (B : Nat) : OwnI w B none 0 0 [] := World.ownsRow_nil w B _ _

/-- The bits of a column, as a row. -/
def colI (xs : List Int) (j : Nat) : Nat → Int
  | 0 => 0
  | i + 1 => colI xs j i + bitI (xs.getD i 0) j * pw i
theorem col_bd (xs : List Int) (j i : Nat) : 0 ≤ colI xs j i ∧ colI xs j i ≤ pw i - 1 := by
  induction i with
  | zero => simp [colI, pw]
  | succ i ih =>
    have := bit_01 (xs.getD i 0) j
    have hp := pw_pos i
    simp only [colI, pw_succ]
    rcases (show bitI (xs.getD i 0) j = 0 ∨ bitI (xs.getD i 0) j = 1 by omega) with e | e <;> rw [e] <;> omega
def colsL (xs : List Int) (W i j : Nat) : List Int := (List.range W).map fun j' => if j' < j then colI xs j' (i + 1) else colI xs j' i
def turnL (xs : List Int) (W k : Nat) : List Int := (List.range W).map fun j => colI xs j k
theorem cols_zero (xs : List Int) (W i : Nat) : colsL xs W i 0 = turnL xs W i := by simp [colsL, turnL]
theorem cols_full (xs : List Int) (W i : Nat) : colsL xs W i W = turnL xs W (i + 1) := by
  unfold colsL turnL; apply List.map_congr_left; intro j hj; rw [if_pos (List.mem_range.1 hj)]
theorem cols_len (xs : List Int) (W i j : Nat) : (colsL xs W i j).length = W := by simp [colsL]
theorem turn_len (xs : List Int) (W k : Nat) : (turnL xs W k).length = W := by simp [turnL]
theorem cols_get (xs : List Int) {W i j : Nat} (hj : j < W) : (colsL xs W i j).getD j 0 = colI xs j i := by
  rw [getD_elem (by rw [cols_len]; exact hj)]; simp [colsL]
theorem cols_set (xs : List Int) {W i j : Nat} (hj : j < W) : (colsL xs W i j).set j (colI xs j (i + 1)) = colsL xs W i (j + 1) := by
  apply List.ext_getElem?
  intro k
  by_cases e : k = j
  · subst e; rw [List.getElem?_set_self (by rw [cols_len]; exact hj)]; simp [colsL, hj]
  · rw [List.getElem?_set_ne (by omega)]
    by_cases hk : k < W
    · simp only [colsL, List.getElem?_map, List.getElem?_range hk, Option.map_some]
      by_cases h : k < j
      · rw [if_pos h, if_pos (by omega)]
      · rw [if_neg h, if_neg (by omega)]
    · rw [List.getElem?_eq_none (by rw [cols_len]; omega), List.getElem?_eq_none (by rw [cols_len]; omega)]
theorem turn_zero (xs : List Int) (W : Nat) : turnL xs W 0 = List.replicate W 0 := by
  unfold turnL
  apply List.ext_getElem?
  intro k
  by_cases hk : k < W
  · simp [colI, hk]
  · rw [List.getElem?_eq_none (by simp; omega), List.getElem?_eq_none (by simp; omega)]

theorem or_nat : ∀ i, i < 6 → ∀ c, c < 64 → ((c : Nat) : Int) ≤ pw i - 1 → bits BinOp.or IntKind.i64 c 0 = c ∧ bits BinOp.or IntKind.i64 c (pw i) = c + pw i := by decide +kernel
theorem or_bit {c b : Int} {i : Nat} (hi : i < 6) (hc : 0 ≤ c ∧ c ≤ pw i - 1) (hb : 0 ≤ b ∧ b ≤ 1) : bits BinOp.or IntKind.i64 c (b * pw i) = c + b * pw i := by
  have hp : pw i ≤ 64 := by have := pw_le i 6 (by omega); have e : pw 6 = 64 := by decide
                            omega
  obtain ⟨n, rfl⟩ := Int.eq_ofNat_of_zero_le hc.1
  have := or_nat i hi n (by omega) hc.2
  rcases (show b = 0 ∨ b = 1 by omega) with e | e <;> rw [e]
  · rw [Int.zero_mul, Int.add_zero]; exact this.1
  · rw [Int.one_mul]; exact this.2

theorem Row.grown {W0 wr : World} {g : Nat} {a : Option Addr} {len : Nat} {xs : List Int} (h : Row W0 a len xs) (hg : W0.grownBy wr (some g)) (hn : len = 0 ∨ ∃ b off, a = some ⟨b, off, none⟩ ∧ b ≠ g) : Row wr a len xs := by
  obtain ⟨h1, h2⟩ := h
  refine ⟨h1, ?_⟩
  rcases h2 with h2 | ⟨b, off, rfl, hc⟩
  · exact .inl h2
  · rcases hn with hn | ⟨b', off', e, hne⟩
    · exact .inl hn
    · right
      simp only [Option.some.injEq, Addr.mk.injEq, and_true] at e
      obtain ⟨rfl, rfl⟩ := e
      exact ⟨b, off, rfl, fun i hi => hg.cell (hc i hi) (by simpa using hne)⟩

theorem own_cell {w : World} {B g len cap : Nat} {xs : List Int} (h : OwnI w B (some ⟨g, 0, none⟩) len cap xs) {i : Nat} (hi : i < len) : w.cell? ⟨g, i, none⟩ = some (.int .i64 (xs.getD i 0)) := by
  have hl := h.len
  rw [World.ownsRow.cellAt h i (by omega), List.getElem?_map, List.getElem?_eq_getElem (by omega), getD_elem (by omega)]; rfl

theorem grown_below {W0 wr : World} {g : Nat} (h : W0.grownBy wr (some g)) : Below (min g W0.heap.size) W0 wr :=
  ⟨h.os, h.tape, h.output, h.size, fun k hk => h.block k (by omega) (by simp; omega)⟩
/-- What stands when a function that gives an image has made its new image: its own argument's box, the result's box, the new image's box, the new row. -/
structure Made (w W0 : World) (g k2 : Nat) (WA : Int) (a : Option Addr) (len cap : Nat) (xs : List Int) (Wb : Int) (n : Nat) : Prop where
  x0 : W0.cell? ⟨w.heap.size, 0, none⟩ = some (.int .i64 WA)
  x1 : W0.cell? ⟨w.heap.size, 1, none⟩ = some (.slice a len cap)
  y0 : W0.cell? ⟨w.heap.size + 1, 0, none⟩ = some (.int .i64 0)
  y1 : W0.cell? ⟨w.heap.size + 1, 1, none⟩ = some (.slice none 0 0)
  yf : ∀ o, W0.frozen? ⟨w.heap.size + 1, o, none⟩ = false
  b0 : W0.cell? ⟨k2, 0, none⟩ = some (.int .i64 Wb)
  b1 : W0.cell? ⟨k2, 1, none⟩ = some (.slice (some ⟨g, 0, none⟩) n n)
  row : Row W0 a len xs
  own : OwnI W0 (w.heap.size + 2) (some ⟨g, 0, none⟩) n n (List.replicate n 0)
  bel : Below w.heap.size w W0
  ne : k2 ≠ g
  far : ∀ b off, a = some ⟨b, off, none⟩ → 0 < len → b ≠ g
  hg : w.heap.size + 2 ≤ g
  hk : w.heap.size + 2 ≤ k2
  old : ∀ k, W0.heap.size ≤ k → g < k

theorem made_own (w : World) (B n : Nat) (hB : B ≤ w.heap.size) (hn : n ≤ 1048576) : OwnI (w.alloc (.cells (madeCells #[.int .i64 0] n) 3)) B (some ⟨w.heap.size, 0, none⟩) n n (List.replicate n 0) := by
  have := World.ownsRow_lit (base := B) (e := 3) (size := 1) w (madeCells #[.int .i64 0] n) n hB (by unfold maxLen; omega) (by simp [madeCells])
  unfold OwnI; simpa [toList_madeCells_one, List.map_replicate] using this
theorem row_far {w1 : World} {a : Option Addr} {len : Nat} {xs : List Int} (h : Row w1 a len xs) {k : Nat} (hk : w1.heap.size ≤ k) : ∀ b off, a = some ⟨b, off, none⟩ → 0 < len → b ≠ k := by
  intro b off e hl
  obtain ⟨b', off', e', hc⟩ := row_at h hl
  rw [e] at e'
  simp only [Option.some.injEq, Addr.mk.injEq, and_true] at e'
  obtain ⟨rfl, rfl⟩ := e'
  have := block_lt hc
  simp at this; omega

theorem made1 {w w1 : World} {WA Wb : Int} {a : Option Addr} {len cap n : Nat} {xs : List Int} (hz : w.heap.size + 1 < w1.heap.size) (bb : Below w.heap.size w w1)
    (x0 : w1.cell? ⟨w.heap.size, 0, none⟩ = some (.int .i64 WA)) (x1 : w1.cell? ⟨w.heap.size, 1, none⟩ = some (.slice a len cap)) (y0 : w1.cell? ⟨w.heap.size + 1, 0, none⟩ = some (.int .i64 0)) (y1 : w1.cell? ⟨w.heap.size + 1, 1, none⟩ = some (.slice none 0 0)) (yf : ∀ o, w1.frozen? ⟨w.heap.size + 1, o, none⟩ = false) (h : Row w1 a len xs) (hn : n ≤ 1048576) :
    Made w ((w1.alloc (.cells (madeCells #[.int .i64 0] n) 3)).alloc (.cells #[.int .i64 Wb, .slice (some ⟨w1.heap.size, 0, none⟩) n n] 29)).drew w1.heap.size (w1.heap.size + 1) WA a len cap xs Wb n := by
  have hB : Below w1.heap.size w1 ((w1.alloc (.cells (madeCells #[.int .i64 0] n) 3)).alloc (.cells #[.int .i64 Wb, .slice (some ⟨w1.heap.size, 0, none⟩) n n] 29)).drew := (((Below.refl _ _).alloc (Nat.le_refl _) _).alloc (by simp) _).drew
  exact ⟨kept hB (show _ < _ by simp; omega) x0, kept hB (show _ < _ by simp; omega) x1, kept hB (by simpa using hz) y0, kept hB (by simpa using hz) y1, fun o => (hB.frozen (by simpa using hz)).trans (yf o), by go_simp, by go_simp, h.bel hB,
    ((made_own w1 _ n (by omega) hn).bel (((Below.refl _ _).alloc (Nat.le_refl _) _).drew)), bb.trans (hB.mono (by omega)), by omega, row_far h (Nat.le_refl _), by omega, by omega, fun k hk => by simp at hk; omega⟩
theorem made2 {w w1 : World} {WA Wb : Int} {a : Option Addr} {len cap n : Nat} {xs : List Int} (hz : w.heap.size + 1 < w1.heap.size) (bb : Below w.heap.size w w1)
    (x0 : w1.cell? ⟨w.heap.size, 0, none⟩ = some (.int .i64 WA)) (x1 : w1.cell? ⟨w.heap.size, 1, none⟩ = some (.slice a len cap)) (y0 : w1.cell? ⟨w.heap.size + 1, 0, none⟩ = some (.int .i64 0)) (y1 : w1.cell? ⟨w.heap.size + 1, 1, none⟩ = some (.slice none 0 0)) (yf : ∀ o, w1.frozen? ⟨w.heap.size + 1, o, none⟩ = false) (h : Row w1 a len xs) (hn : n ≤ 1048576) :
    Made w ((w1.alloc (.cells #[.int .i64 Wb, .slice (some ⟨w1.heap.size + 1, 0, none⟩) n n] 29)).alloc (.cells (madeCells #[.int .i64 0] n) 3)).drew (w1.heap.size + 1) w1.heap.size WA a len cap xs Wb n := by
  have hB : Below w1.heap.size w1 ((w1.alloc (.cells #[.int .i64 Wb, .slice (some ⟨w1.heap.size + 1, 0, none⟩) n n] 29)).alloc (.cells (madeCells #[.int .i64 0] n) 3)).drew := (((Below.refl _ _).alloc (Nat.le_refl _) _).alloc (by simp) _).drew
  have ho := made_own (w1.alloc (.cells #[.int .i64 Wb, .slice (some ⟨w1.heap.size + 1, 0, none⟩) n n] 29)) (w.heap.size + 2) n (by simp; omega) hn
  exact ⟨kept hB (show _ < _ by simp; omega) x0, kept hB (show _ < _ by simp; omega) x1, kept hB (by simpa using hz) y0, kept hB (by simpa using hz) y1, fun o => (hB.frozen (by simpa using hz)).trans (yf o), by go_simp, by go_simp, h.bel hB,
    (by simpa using ho.bel ((Below.refl _ _).drew)), bb.trans (hB.mono (by omega)), by omega, row_far h (by omega), by omega, by omega, fun k hk => by simp at hk; omega⟩

end Go.Proofs.Yteadibgjieimkaa

