/-
  The contracts of the functions that give an image, at valid images; boxes of a law's middle.
  Plain facts on images with a cell put; putting at valid images and at others; the laws' own bit.
  Row sums and column sums: plain facts, and the contracts of the model's functions that make them.
  The contracts of the program's functions that make sums, and of the model's column sums.
  The contracts of the functions that compare lists, and of SumsValid, SumsFit and SumsSame.
  The contracts of SumsSame of both sides.
  Plain facts on row sums and column sums: turned, mirrored, other cells; the laws' sum of a list.
  The contracts of the laws' drawing functions that draw sums.
  The contracts of DrawSumsValid and DrawSumsFit.
  Plain facts on the sums of an image with one cell changed.
-/
import Derived.Test.YtemmfnlnhekclaaHc
import Derived.Test.YtemmfnlnhekclaaK
import Derived.Test.YtemmfnlnhekclaaA
import Derived.Lib.SmallJoins
import Derived.Deep.AppendLies
import Derived.Shelf.Abstract
import Derived.Deep.RegionLaw
import Derived.Maps.AppendAt

namespace Go.Proofs.Ytemmfnlnhekclaa
set_option maxRecDepth 100000
open Go.RowKit

theorem Ctx.a3 {w wr : World} {b0 b1 b2 b3 : BI} {l : List BI} (h : Ctx w wr (b0 :: b1 :: b2 :: b3 :: l)) : b3.At wr := h.pop.a2
theorem Ctx.a4 {w wr : World} {b0 b1 b2 b3 b4 : BI} {l : List BI} (h : Ctx w wr (b0 :: b1 :: b2 :: b3 :: b4 :: l)) : b4.At wr := h.pop.a3
theorem Ctx.a5 {w wr : World} {b0 b1 b2 b3 b4 b5 : BI} {l : List BI} (h : Ctx w wr (b0 :: b1 :: b2 :: b3 :: b4 :: b5 :: l)) : b5.At wr := h.pop.a4
theorem Ctx.a6 {w wr : World} {b0 b1 b2 b3 b4 b5 b6 : BI} {l : List BI} (h : Ctx w wr (b0 :: b1 :: b2 :: b3 :: b4 :: b5 :: b6 :: l)) : b6.At wr := h.pop.a5
def Olds (k : Nat) (l : List BI) : Prop := ∀ b ∈ l, b.kb < k ∧ ∀ q off, b.s = some ⟨q, off, none⟩ → 0 < b.n → q < k
theorem Ctx.olds {w wr : World} {l : List BI} (h : Ctx w wr l) {k : Nat} (hk : wr.heap.size ≤ k) : Olds k l := fun b hb =>
  ⟨Nat.lt_of_lt_of_le (show b.kb < wr.heap.size from block_lt (h.all b hb).c0) hk, fun q off e hn => Nat.lt_of_lt_of_le (row_lt (h.all b hb).row q off e hn) hk⟩
/-- Another image is put into the first box. -/
theorem Ctx.putk {w wr : World} {b0 : BI} {l : List BI} {W : Int} {s : Option Addr} {n cg : Nat} {xs : List Int} (h : Ctx w wr (b0 :: l)) (hR : Row wr s n xs) (hs : ∀ b off, s = some ⟨b, off, none⟩ → 0 < n → b ≠ b0.kb) (hl : Olds b0.kb l) (hw : w.heap.size ≤ b0.kb) :
    Ctx w ((wr.setCell ⟨b0.kb, 0, none⟩ (.int .i64 W)).setCell ⟨b0.kb, 1, none⟩ (.slice s n cg)) (⟨b0.kb, W, s, n, cg, xs⟩ :: l) := by
  have hg : wr.grownBy ((wr.setCell ⟨b0.kb, 0, none⟩ (.int .i64 W)).setCell ⟨b0.kb, 1, none⟩ (.slice s n cg)) (some b0.kb) := grown_set (grown_set (World.grownBy.refl _ _))
  refine ⟨fun b hb => ?_, (h.bel.setCell (by simpa using hw) _).setCell (by simpa using hw) _⟩
  rcases List.mem_cons.1 hb with e | hb
  · subst e
    refine ⟨?_, ?_, hR.apart hg (fun b off e hl => by have := hs b off e hl; simpa using this)⟩
    · rw [World.cell?_setCell_other _ _ _ _ (by simp)]; exact World.cell?_setCell_same _ _ _ h.a0.c0
    · exact World.cell?_setCell_same _ _ _ (by rw [World.cell?_setCell_other _ _ _ _ (by simp)]; exact h.a0.c1)
  · have h1 := h.all b (.tail _ hb)
    have h2 := hl b hb
    exact ⟨hg.cell h1.c0 (by have := h2.1; simp; omega), hg.cell h1.c1 (by have := h2.1; simp; omega), h1.row.apart hg (fun q off e hn => by have := h2.2 q off e hn; simp; omega)⟩
theorem row_nil (w : World) : Row w none 0 [] := ⟨rfl, .inl rfl⟩
def GivesI (w : World) (W n : Nat) (xs : List Int) (e : Ending) (w' : World) : Prop :=
  (∃ a cap, e = .returned (.tuple #[.agg #[.int .i64 W, .slice a n cap], .bool true]) ∧ OwnI w' w.heap.size a n cap xs) ∧ Below w.heap.size w w'
theorem Gives.ok {w w' : World} {W n : Nat} {xs : List Int} {e : Ending} (h : Gives w ⟨true, W, xs⟩ e w') (hl : xs.length = n) : GivesI w W n xs e w' := by
  subst hl; exact h
theorem other_ok {W n : Nat} {xs : List Int} (h : Im W n xs) (s : Option Addr) (cg : Nat) (w : World) (hR : Row w s n xs) :
    Calls Try.prog 38 #[.agg #[.int .i64 W, .slice s n cg]] w (GivesI w W n (othL xs W n)) := by
  have hc := other_impl W s n cg xs w hR (by have := h.l6; omega)
  rw [if_pos h.valid, Int.toNat_natCast] at hc
  exact hc.mono fun e w' hg => hg.ok (rows_len _ _)
theorem turn_ok {W n : Nat} {xs : List Int} (h : Im W n xs) (s : Option Addr) (cg : Nat) (w : World) (hR : Row w s n xs) :
    Calls Try.prog 37 #[.agg #[.int .i64 W, .slice s n cg]] w (GivesI w n W (turnL xs W n)) := by
  have hc := turn_impl W s n cg xs w hR (by have := h.l6; omega)
  rw [if_pos h.valid, Int.toNat_natCast] at hc
  exact hc.mono fun e w' hg => hg.ok (turn_len _ _ _)
def putL (xs : List Int) (i j : Nat) (set : Bool) : List Int := xs.set i (putI (xs.getD i 0) j set)
theorem put_ok {W n : Nat} {xs : List Int} (h : Im W n xs) {i j : Nat} (hi : i < n) (hj : j < W) (set : Bool) (s : Option Addr) (cg : Nat) (w : World) (hR : Row w s n xs) :
    Calls Try.prog 34 #[.agg #[.int .i64 W, .slice s n cg], .int .i64 i, .int .i64 j, .bool set] w (GivesI w W n (putL xs i j set)) := by
  have hc := put_impl W s n cg xs i j set w hR (by have := h.l6; omega)
  rw [putOut, if_pos ⟨h.valid, cellB_iff.2 ⟨by omega, by rw [h.hl]; omega, by omega, by omega⟩⟩, Int.toNat_natCast, Int.toNat_natCast] at hc
  exact hc.mono fun e w' hg => hg.ok (by rw [List.length_set]; exact h.hl)
end Go.Proofs.Ytemmfnlnhekclaa

namespace Go.Proofs.Ytemmfnlnhekclaa
set_option maxRecDepth 100000
open Go.RowKit

theorem putr_nat : ∀ W, W < 7 → ∀ j, j < W → ∀ n, n < 64 → ((n : Nat) : Int) ≤ pw W - 1 → 0 ≤ putI ((n : Nat) : Int) j false ∧ putI ((n : Nat) : Int) j false ≤ pw W - 1 := by decide +kernel
theorem putb_yes : ∀ j, j < 6 → ∀ l, l < 6 → ∀ n, n < 64 → bitI (putI ((n : Nat) : Int) j true) l = if l = j then 1 else bitI ((n : Nat) : Int) l := by decide +kernel
theorem putb_not : ∀ j, j < 6 → ∀ l, l < 6 → ∀ n, n < 64 → bitI (putI ((n : Nat) : Int) j false) l = if l = j then 0 else bitI ((n : Nat) : Int) l := by decide +kernel
theorem putb_nat (W : Nat) (hW : W < 7) (j : Nat) (hj : j < W) (n : Nat) (hn : n < 64) (hb : ((n : Nat) : Int) ≤ pw W - 1) (set : Bool) : 0 ≤ putI ((n : Nat) : Int) j set ∧ putI ((n : Nat) : Int) j set ≤ pw W - 1 ∧ ∀ l, l < W → bitI (putI ((n : Nat) : Int) j set) l = if l = j then (if set = true then 1 else 0) else bitI ((n : Nat) : Int) l := by
  have h := putin_nat W hW j hj n hn hb
  have h' := putr_nat W hW j hj n hn hb
  cases set
  · exact ⟨h'.1, h'.2, fun l hl => putb_not j (by omega) l (by omega) n hn⟩
  · exact ⟨h.1, h.2, fun l hl => putb_yes j (by omega) l (by omega) n hn⟩
theorem put_get {xs : List Int} {i j k n : Nat} {set : Bool} (hl : xs.length = n) (hk : k < n) : (putL xs i j set).getD k 0 = if k = i then putI (xs.getD i 0) j set else xs.getD k 0 := by
  unfold putL
  by_cases e : k = i
  · subst e; rw [if_pos rfl, List.getD_eq_getElem?_getD, List.getElem?_set_self (by omega)]; rfl
  · rw [if_neg e, List.getD_eq_getElem?_getD, List.getElem?_set_ne (by omega), ← List.getD_eq_getElem?_getD]
theorem Im.put {W n : Nat} {xs : List Int} (h : Im W n xs) {i j : Nat} (hi : i < n) (hj : j < W) (set : Bool) : Im W n (putL xs i j set) :=
  ⟨h.w1, h.w6, h.l1, h.l6, by unfold putL; rw [List.length_set]; exact h.hl, fun k hk => by
    rw [put_get h.hl hk]
    obtain ⟨m, hm, hm64⟩ := h.nat hi
    have hb := (h.row i hi).2
    have hp := putb_nat W (by have := h.w6; omega) j hj m hm64 (by rw [← hm]; exact hb) set
    rw [hm]
    split
    · exact ⟨hp.1, hp.2.1⟩
    · exact h.row k hk⟩
theorem Im.put_bit {W n : Nat} {xs : List Int} (h : Im W n xs) {i j k l : Nat} (hi : i < n) (hj : j < W) (hk : k < n) (hl : l < W) (set : Bool) : bitI ((putL xs i j set).getD k 0) l = if k = i ∧ l = j then (if set = true then 1 else 0) else bitI (xs.getD k 0) l := by
  rw [put_get h.hl hk]
  obtain ⟨m, hm, hm64⟩ := h.nat hi
  have hb := (h.row i hi).2
  have hp := (putb_nat W (by have := h.w6; omega) j hj m hm64 (by rw [← hm]; exact hb) set).2.2 l hl
  by_cases e : k = i
  · subst e
    rw [if_pos rfl, hm, hp]
    by_cases e2 : l = j
    · simp only [e2, and_self]
    · simp only [e2, and_false]
  · rw [if_neg e, if_neg (fun h => e h.1)]
theorem Im.put_has {W n : Nat} {xs : List Int} (h : Im W n xs) {i j k l : Nat} (hi : i < n) (hj : j < W) (hk : k < n) (hl : l < W) (set : Bool) : hasB W (putL xs i j set) k l = if k = i ∧ l = j then set else hasB W xs k l := by
  rw [(h.put hi hj set).has hk hl, h.has hk hl, h.put_bit hi hj hk hl]
  split
  · cases set <;> rfl
  · rfl
theorem Im.put_put {W n : Nat} {xs : List Int} (h : Im W n xs) {i j : Nat} (hi : i < n) (hj : j < W) (s t : Bool) : putL (putL xs i j s) i j t = putL xs i j t :=
  ((h.put hi hj s).put hi hj t).ext (h.put hi hj t) fun k l hk hl => by
    rw [(h.put hi hj s).put_bit hi hj hk hl, h.put_bit hi hj hk hl, h.put_bit hi hj hk hl]
    split <;> rfl
theorem Im.put_self {W n : Nat} {xs : List Int} (h : Im W n xs) {i j : Nat} (hi : i < n) (hj : j < W) : putL xs i j (hasB W xs i j) = xs :=
  (h.put hi hj _).ext h fun k l hk hl => by
    rw [h.put_bit hi hj hk hl]
    split
    · rename_i e; obtain ⟨rfl, rfl⟩ := e
      rw [h.has hi hj]
      have := bit_01 (xs.getD k 0) l
      rcases (show bitI (xs.getD k 0) l = 0 ∨ bitI (xs.getD k 0) l = 1 by omega) with e | e <;> rw [e] <;> rfl
    · rfl
theorem Im.put_comm {W n : Nat} {xs : List Int} (h : Im W n xs) {i j k l : Nat} (hi : i < n) (hj : j < W) (hk : k < n) (hl : l < W) (hne : ¬ (k = i ∧ l = j)) (s t : Bool) : putL (putL xs i j s) k l t = putL (putL xs k l t) i j s :=
  ((h.put hi hj s).put hk hl t).ext ((h.put hk hl t).put hi hj s) fun a b ha hb => by
    rw [(h.put hi hj s).put_bit hk hl ha hb, h.put_bit hi hj ha hb, (h.put hk hl t).put_bit hi hj ha hb, h.put_bit hk hl ha hb]
    by_cases e1 : a = k ∧ b = l
    · have e2 : ¬ (a = i ∧ b = j) := by rintro ⟨r1, r2⟩; exact hne ⟨by omega, by omega⟩
      simp only [e1, and_self, if_true]
      obtain ⟨rfl, rfl⟩ := e1
      simp only [e2, if_false]
    · simp only [e1, if_false]

def GivesN (w : World) (e : Ending) (w' : World) : Prop :=
  (∃ a cap, e = .returned (.tuple #[.agg #[.int .i64 0, .slice a 0 cap], .bool false]) ∧ OwnI w' w.heap.size a 0 cap []) ∧ Below w.heap.size w w'
theorem put_no {W : Int} {n : Nat} {xs : List Int} {i j : Int} (h : ¬ (validB W xs = true ∧ cellB W xs.length i j = true)) (set : Bool) (s : Option Addr) (cg : Nat) (w : World) (hR : Row w s n xs) (hn : n ≤ 9223372036854775807) :
    Calls Try.prog 34 #[.agg #[.int .i64 W, .slice s n cg], .int .i64 i, .int .i64 j, .bool set] w (GivesN w) := by
  have hc := put_impl W s n cg xs i j set w hR hn
  rw [putOut, if_neg h] at hc
  exact hc
end Go.Proofs.Ytemmfnlnhekclaa

namespace Go.Proofs.Ytemmfnlnhekclaa
set_option maxRecDepth 100000
open Go.RowKit

theorem rows_snoc (f : Nat → Int) (k : Nat) : rowsL f (k + 1) = rowsL f k ++ [f k] := by simp [rowsL, List.range_succ]
theorem rows_nil (f : Nat → Int) : rowsL f 0 = [] := rfl
/-- The row sums of the first rows. -/
def rsL (xs : List Int) (W n : Nat) : List Int := rowsL (fun i => cntI (xs.getD i 0) W) n
/-- The sum of a column, as far as a row. -/
def csI (xs : List Int) (j n : Nat) : Int := sumI (fun i => bitI (xs.getD i 0) j) n
/-- The column sums. -/
def csL (xs : List Int) (n W : Nat) : List Int := rowsL (fun j => csI xs j n) W
def rsOut (W : Int) (xs : List Int) : List Int := if validB W xs = true then rsL xs W.toNat xs.length else []
def csOut (W : Int) (xs : List Int) : List Int := if validB W xs = true then csL xs xs.length W.toNat else []
theorem rs_len (xs : List Int) (W n : Nat) : (rsL xs W n).length = n := rows_len _ _
theorem cs_len (xs : List Int) (n W : Nat) : (csL xs n W).length = W := rows_len _ _
theorem csI_bd (xs : List Int) (j n : Nat) : 0 ≤ csI xs j n ∧ csI xs j n ≤ n := by
  induction n with
  | zero => simp [csI, sumI]
  | succ n ih => have := bit_01 (xs.getD n 0) j; unfold csI at *; simp only [sumI]; omega
theorem csI_succ (xs : List Int) (j n : Nat) : csI xs j (n + 1) = csI xs j n + bitI (xs.getD n 0) j := rfl
theorem OwnI.cap {w : World} {B : Nat} {a : Option Addr} {len cap : Nat} {xs : List Int} (h : OwnI w B a len cap xs) : len ≤ cap := by
  rcases h.2 with ⟨h1, h2⟩ | ⟨g, c, cur, h1, _, _, h4, _⟩
  · simp at h1; omega
  · simp only [Value.slice.injEq] at h1; omega

/-- What a function that gives a list leaves. -/
def GivesL (w : World) (L : List Int) (e : Ending) (w' : World) : Prop :=
  (∃ a cap, e = .returned (.slice a L.length cap) ∧ OwnI w' w.heap.size a L.length cap L) ∧ Below w.heap.size w w'

end Go.Proofs.Ytemmfnlnhekclaa

namespace Go.Proofs.Ytemmfnlnhekclaa
set_option maxRecDepth 100000
open Go.RowKit

/-- What the sums are while they are made. -/
def partL (F : Nat → Nat → Int) (n m k j : Nat) : List Int := rowsL (fun i => if i < k then sumI (F i) m else if i = k then sumI (F k) j else 0) n
theorem part_len (F : Nat → Nat → Int) (n m k j : Nat) : (partL F n m k j).length = n := rows_len _ _
theorem part_zero (F : Nat → Nat → Int) (n m : Nat) : partL F n m 0 0 = List.replicate n 0 := by
  rw [← rows_zero]; exact rows_ext fun _ _ => by rw [if_neg (by omega)]; split <;> simp_all [sumI]
theorem part_get (F : Nat → Nat → Int) {n m k j : Nat} (hk : k < n) : (partL F n m k j).getD k 0 = sumI (F k) j := by
  rw [show (partL F n m k j).getD k 0 = _ from rows_get _ hk, if_neg (by omega), if_pos rfl]
theorem part_set (F : Nat → Nat → Int) {n m k j : Nat} (hk : k < n) : (partL F n m k j).set k (sumI (F k) (j + 1)) = partL F n m k (j + 1) :=
  rows_set _ _ hk (by simp) fun _ _ hne => by
    show (if _ < k then _ else if _ = k then _ else (0 : Int)) = (if _ < k then _ else if _ = k then _ else (0 : Int))
    rw [if_neg hne, if_neg hne]
theorem part_next (F : Nat → Nat → Int) (n m k : Nat) : partL F n m k m = partL F n m (k + 1) 0 := rows_ext fun i _ => by
  by_cases h : i < k
  · rw [if_pos h, if_pos (by omega)]
  · rw [if_neg h]
    by_cases e : i = k
    · rw [if_pos e, if_pos (by omega), e]
    · rw [if_neg e, if_neg (by omega)]; split <;> rfl
theorem part_full (F : Nat → Nat → Int) (n m j : Nat) : partL F n m n j = rowsL (fun i => sumI (F i) m) n := rows_ext fun _ hi => if_pos hi
theorem sum_bd {f : Nat → Int} (h : ∀ i, 0 ≤ f i ∧ f i ≤ 1) (k : Nat) : 0 ≤ sumI f k ∧ sumI f k ≤ k := by
  induction k with
  | zero => simp [sumI]
  | succ k ih => have := h k; simp only [sumI]; omega

set_option maxHeartbeats 1000000 in
theorem sumsOf_any (fk : Nat) (hE : Go.Proofs.Enters Try.prog fk) (p : Value) (n m : Nat) (F : Nat → Nat → Int) (w : World) (hF : ∀ i j, 0 ≤ F i j ∧ F i j ≤ 1) (hn : n ≤ 6) (hm : m ≤ 6)
    (hc : ∀ wx, Below w.heap.size w wx → ∀ i j : Nat, i < n → j < m → Calls Try.prog fk #[.int .i64 i, .int .i64 j, p] wx fun e w' => e = .returned (.int .i64 (F i j)) ∧ wx = w') :
    Calls Try.prog 70 #[.int .i64 n, .int .i64 m, .func (.func fk) #[] #[p]] w (GivesL w (rowsL (fun i => sumI (F i) m) n)) := by
  obtain ⟨i0, hi, hz0, hz1, hz2⟩ := info_parts infoInt
  have hsb : Hid (∀ i j, 0 ≤ sumI (F i) j ∧ sumI (F i) j ≤ j) := fun i j => sum_bd (hF i) j
  have hF := Lib.hid hF
  have hc := Lib.hid hc
  go_enter Try.func70, Try.ntmps70
  go_wp2_with ((refine wpList_make_full w rfl _ _ 33 rfl w.heap.size 3 i0 (.int .i64 0) 1 Try.underlying33 hi hz0 hz1 .i64 .i64 n n n rfl rfl rfl rfl ?_ ?_ (Nat.le_refl _) ?_))
  all_goals first | (rw [hz2]; omega) | (unfold maxLen; omega) | skip
  intro w1 ho hg
  have ho0 : OwnI w1 w.heap.size (some ⟨w.heap.size, 0, none⟩) n n (partL F n m 0 0) := by
    rw [part_zero]; unfold OwnI; simpa [toList_madeCells_one, List.map_replicate] using ho
  have hb1 : Below w.heap.size w w1 := (Below.refl _ _).grown hg (Nat.le_refl _) (fun k hk => by cases hk)
  have ho0 := Lib.hid ho0
  have hb1 := Lib.hid hb1
  clear ho hg
  go_wp2_with fail
  generalize hgw : w.heap.size = g at *
  go_loopw [14] (fun i wr => ∃ k : Nat, k ≤ n ∧ i = .int .i64 k ∧ Hid (Below g w wr) ∧ Hid (OwnI wr g (some ⟨g, 0, none⟩) n n (partL F n m k 0))) (fun i _ => n - (intOf i).toNat)
  case atStart => exact ⟨0, Nat.zero_le _, rfl, hb1, ho0⟩
  case round =>
    obtain ⟨k, hk, rfl, hB, hO⟩ := hrel
    obtain ⟨wo, rfl⟩ : ∃ wo : World, wo = wr := ⟨_, rfl⟩
    clear hb1 ho0
    by_cases hlt : k < n
    · go_wp2_with fail
      go_loopw [18] (fun i wr => ∃ j : Nat, j ≤ m ∧ i = .int .i64 j ∧ Hid (Below g w wr) ∧ Hid (OwnI wr g (some ⟨g, 0, none⟩) n n (partL F n m k j))) (fun i _ => m - (intOf i).toNat)
      case atStart => exact ⟨0, Nat.zero_le _, rfl, hB, hO⟩
      case round =>
        obtain ⟨j, hj, rfl, hB2, hO2⟩ := hrel
        clear hB hO
        by_cases hlj : j < m
        · have hcj := hsb.out k j
          have hF1 := hF.out k j
          have hcell := own_cell (hO2.out.bel ((Below.refl _ _).drew)) hlt
          rw [part_get F hlt] at hcell
          have hfz := (hO2.out.bel ((Below.refl _ _).drew)).frozen k
          have hst := (hO2.out.bel ((Below.refl _ _).drew)).set k (sumI (F k) j + F k j)
          rw [show sumI (F k) j + F k j = sumI (F k) (j + 1) from rfl, part_set F hlt] at hst
          have hsn : sumI (F k) (j + 1) = sumI (F k) j + F k j := rfl
          rw [hsn] at hst
          have hBd := hB2.out.drew
          obtain ⟨W2, hW2⟩ : ∃ W2, wr.drew = W2 := ⟨_, rfl⟩
          rw [hW2] at hcell hfz hst hBd
          have hbs := hBd.setCell (show g ≤ (⟨g, k, none⟩ : Addr).block by simp) (.int .i64 (sumI (F k) j + F k j))
          have hcl := hc.out W2 hBd k j hlt hlj
          generalize sumI (F k) j = x at hcj hcell hst hbs
          generalize F k j = y at hF1 hst hbs hcl
          have hst := Lib.hid hst
          have hbs := Lib.hid hbs
          have hi64 : IntKind.i64.wrap (x + y) = x + y := IntWalk.i64_in _ ⟨by omega, by omega⟩
          clear hBd hO2 hB2
          go_wp2_with fail
          refine region_tail 9 (by kernel_rfl) (by kernel_rfl) W2 hW2 ?_
          simp only [List.take_succ_cons, List.take_zero, List.drop_succ_cons, List.drop_zero]
          clear hW2
          iterate 7 still_step
          refine wpStill_step (fun K hK => ?_)
          go_simp
          rw [hE]
          go_simp
          refine ⟨_, st hcl, hK _ ?_⟩
          clear hK K
          still_step
          refine wpStill_nil ?_
          go_wp2_with fail
          exact ⟨⟨j + 1, by omega, by go_num, hbs, hst⟩, by simp [intOf]; omega⟩
        · have : j = m := by omega
          subst this
          rw [part_next] at hO2
          go_wp2_with fail
          exact ⟨⟨k + 1, by omega, by go_num, hB2, hO2⟩, by simp [intOf]; omega⟩
    · have : k = n := by omega
      subst this
      rw [part_full] at hO
      subst hgw
      go_wp2_with fail
      go_ret
      exact ⟨⟨_, _, by rw [rows_len]; rfl, by rw [rows_len]; exact hO.out⟩, hB.out⟩

theorem sumsOf_eq (fk : Nat) (hE : Go.Proofs.Enters Try.prog fk) (p : Value) (n m : Nat) (F : Nat → Nat → Int) (L : List Int) (hL : rowsL (fun i => sumI (F i) m) n = L) (w : World) (hF : ∀ i j, 0 ≤ F i j ∧ F i j ≤ 1) (hn : n ≤ 6) (hm : m ≤ 6)
    (hc : ∀ wx, Below w.heap.size w wx → ∀ i j : Nat, i < n → j < m → Calls Try.prog fk #[.int .i64 i, .int .i64 j, p] wx fun e w' => e = .returned (.int .i64 (F i j)) ∧ wx = w') :
    Calls Try.prog 70 #[.int .i64 n, .int .i64 m, .func (.func fk) #[] #[p]] w (GivesL w L) := by
  subst hL; exact sumsOf_any fk hE p n m F w hF hn hm hc

theorem rowcell (B : Nat) (a : Option Addr) (len cap : Nat) (xs : List Int) (w : World) (x1 : w.cell? ⟨B, 1, none⟩ = some (.slice a len cap)) (h : Row w a len xs) (r c : Nat) (hr : r < len) (h6 : c ≤ 6) (hx : 0 ≤ xs.getD r 0 ∧ xs.getD r 0 ≤ 63) :
    Calls Try.prog 72 #[.int .i64 r, .int .i64 c, .pointer (some ⟨B, 0, none⟩)] w fun e w' => e = .returned (.int .i64 (bitI (xs.getD r 0) c)) ∧ w = w' := by
  obtain ⟨b, off, rfl, hck⟩ := row_at h hr
  generalize xs.getD r 0 = x at hck hx
  have E := shr_bit (j := c) hx.1 hx.2
  clear h
  go_enter Try.func72, Try.ntmps72
  go_wp2_with fail
  go_ret
  exact ⟨by rw [← E]; rfl, rfl⟩

theorem colcell (B : Nat) (a : Option Addr) (len cap : Nat) (xs : List Int) (w : World) (x1 : w.cell? ⟨B, 1, none⟩ = some (.slice a len cap)) (h : Row w a len xs) (r c : Nat) (hr : r < len) (h6 : c ≤ 6) (hx : 0 ≤ xs.getD r 0 ∧ xs.getD r 0 ≤ 63) :
    Calls Try.prog 71 #[.int .i64 c, .int .i64 r, .pointer (some ⟨B, 0, none⟩)] w fun e w' => e = .returned (.int .i64 (bitI (xs.getD r 0) c)) ∧ w = w' := by
  obtain ⟨b, off, rfl, hck⟩ := row_at h hr
  generalize xs.getD r 0 = x at hck hx
  have E := shr_bit (j := c) hx.1 hx.2
  clear h
  go_enter Try.func71, Try.ntmps71
  go_wp2_with fail
  go_ret
  exact ⟨by rw [← E]; rfl, rfl⟩

set_option maxHeartbeats 800000 in
theorem rsums_impl (W : Int) (a : Option Addr) (len cap : Nat) (xs : List Int) (w : World) (h : Row w a len xs) (hm : len ≤ 9223372036854775807) :
    Calls Try.prog 33 #[.agg #[.int .i64 W, .slice a len cap]] w (GivesL w (rsOut W xs)) := by
  have hl := h.1
  have H := h.alloc (.cells #[.int .i64 W, .slice a len cap] 35)
  have hb0 : Below w.heap.size w (w.alloc (.cells #[.int .i64 W, .slice a len cap] 35)) := (Below.refl _ _).alloc (Nat.le_refl _) _
  by_cases hv : validB W xs = true
  case neg =>
    rw [show rsOut W xs = [] from if_neg hv]
    have hv : validB W xs = false := by simpa using hv
    go_enter Try.func33, Try.ntmps33
    go_wp2_with fail
    refine (valid_impl _ _ _ _ xs _ H hm).mono ?_
    rintro e w1 ⟨rfl, hb⟩
    rw [hv]
    have bb := hb0.trans (hb.mono hb0.size)
    go_wp2_with fail
    go_ret
    exact ⟨⟨_, _, rfl, own_empty w1 w.heap.size w1.heap.size rfl bb.size⟩, bb.alloc bb.size _⟩
  rw [show rsOut W xs = rsL xs W.toNat len by rw [← hl]; exact if_pos hv]
  have hW := validB_W hv
  have hL := validB_len hv
  obtain ⟨W, rfl⟩ := Int.eq_ofNat_of_zero_le (by omega : 0 ≤ W)
  rw [Int.toNat_natCast]
  have hrow : Hid (∀ i, i < len → 0 ≤ xs.getD i 0 ∧ xs.getD i 0 ≤ pw W - 1 ∧ xs.getD i 0 ≤ 63) := fun i hi => validB_row hv (by omega)
  have x0 : (w.alloc (.cells #[.int .i64 W, .slice a len cap] 35)).cell? ⟨w.heap.size, 0, none⟩ = some (.int .i64 W) := by simp
  have x1 : (w.alloc (.cells #[.int .i64 W, .slice a len cap] 35)).cell? ⟨w.heap.size, 1, none⟩ = some (.slice a len cap) := by simp
  go_enter Try.func33, Try.ntmps33
  go_wp2_with fail
  refine (valid_impl _ _ _ _ xs _ H hm).mono ?_
  rintro e w1 ⟨rfl, hb⟩
  rw [hv]
  have bb := hb0.trans (hb.mono hb0.size)
  have x0 := kept hb (by simp) x0
  have x1 := kept hb (by simp) x1
  have hsz : w.heap.size < w1.heap.size := block_lt x0
  have H1 := Lib.hid (H.bel hb)
  have bb := Lib.hid bb
  clear hb hb0 H h
  go_wp2_with fail
  refine (sumsOf_eq 72 (enters_of Try.func72 (by kernel_rfl) rfl) (.pointer (some ⟨w.heap.size, 0, none⟩)) len W (fun i j => bitI (xs.getD i 0) j) (rsL xs W len) (rows_ext fun i _ => (cnt_sum _ _).symm) _ (fun i j => bit_01 _ _) (by omega) (by omega) fun wx hx i j hi hj => rowcell w.heap.size a len cap xs wx (kept hx (show w.heap.size < _ by simpa using hsz) (by simpa using x1)) ((by simpa using H1.out : Row _ a len xs).bel hx) i j hi (by omega) (And.intro (hrow.out _ (by assumption)).1 (hrow.out _ (by assumption)).2.2)).mono ?_
  rintro e w2 ⟨⟨a2, c2, rfl, ho⟩, hb2⟩
  have hw := Lib.hid (And.intro ho hb2)
  clear ho hb2
  go_wp2_with fail
  go_ret
  have hw := hw.out
  refine ⟨⟨a2, c2, rfl, ?_⟩, bb.out.trans (hw.2.mono (by have := bb.out.size; simpa using this))⟩
  exact hw.1.mono (by have := bb.out.size; simpa using this)

set_option maxHeartbeats 800000 in
theorem csums_impl (W : Int) (a : Option Addr) (len cap : Nat) (xs : List Int) (w : World) (h : Row w a len xs) (hm : len ≤ 9223372036854775807) :
    Calls Try.prog 32 #[.agg #[.int .i64 W, .slice a len cap]] w (GivesL w (csOut W xs)) := by
  have hl := h.1
  have H := h.alloc (.cells #[.int .i64 W, .slice a len cap] 35)
  have hb0 : Below w.heap.size w (w.alloc (.cells #[.int .i64 W, .slice a len cap] 35)) := (Below.refl _ _).alloc (Nat.le_refl _) _
  by_cases hv : validB W xs = true
  case neg =>
    rw [show csOut W xs = [] from if_neg hv]
    have hv : validB W xs = false := by simpa using hv
    go_enter Try.func32, Try.ntmps32
    go_wp2_with fail
    refine (valid_impl _ _ _ _ xs _ H hm).mono ?_
    rintro e w1 ⟨rfl, hb⟩
    rw [hv]
    have bb := hb0.trans (hb.mono hb0.size)
    go_wp2_with fail
    go_ret
    exact ⟨⟨_, _, rfl, own_empty w1 w.heap.size w1.heap.size rfl bb.size⟩, bb.alloc bb.size _⟩
  rw [show csOut W xs = csL xs len W.toNat by rw [← hl]; exact if_pos hv]
  have hW := validB_W hv
  have hL := validB_len hv
  obtain ⟨W, rfl⟩ := Int.eq_ofNat_of_zero_le (by omega : 0 ≤ W)
  rw [Int.toNat_natCast]
  have hrow : Hid (∀ i, i < len → 0 ≤ xs.getD i 0 ∧ xs.getD i 0 ≤ pw W - 1 ∧ xs.getD i 0 ≤ 63) := fun i hi => validB_row hv (by omega)
  have x0 : (w.alloc (.cells #[.int .i64 W, .slice a len cap] 35)).cell? ⟨w.heap.size, 0, none⟩ = some (.int .i64 W) := by simp
  have x1 : (w.alloc (.cells #[.int .i64 W, .slice a len cap] 35)).cell? ⟨w.heap.size, 1, none⟩ = some (.slice a len cap) := by simp
  go_enter Try.func32, Try.ntmps32
  go_wp2_with fail
  refine (valid_impl _ _ _ _ xs _ H hm).mono ?_
  rintro e w1 ⟨rfl, hb⟩
  rw [hv]
  have bb := hb0.trans (hb.mono hb0.size)
  have x0 := kept hb (by simp) x0
  have x1 := kept hb (by simp) x1
  have hsz : w.heap.size < w1.heap.size := block_lt x0
  have H1 := Lib.hid (H.bel hb)
  have bb := Lib.hid bb
  clear hb hb0 H h
  go_wp2_with fail
  refine (sumsOf_eq 71 (enters_of Try.func71 (by kernel_rfl) rfl) (.pointer (some ⟨w.heap.size, 0, none⟩)) W len (fun i j => bitI (xs.getD j 0) i) (csL xs len W) rfl _ (fun i j => bit_01 _ _) (by omega) (by omega) fun wx hx i j hi hj => colcell w.heap.size a len cap xs wx (kept hx (show w.heap.size < _ by simpa using hsz) (by simpa using x1)) ((by simpa using H1.out : Row _ a len xs).bel hx) j i hj (by omega) (And.intro (hrow.out _ (by assumption)).1 (hrow.out _ (by assumption)).2.2)).mono ?_
  rintro e w2 ⟨⟨a2, c2, rfl, ho⟩, hb2⟩
  have hw := Lib.hid (And.intro ho hb2)
  clear ho hb2
  go_wp2_with fail
  go_ret
  have hw := hw.out
  refine ⟨⟨a2, c2, rfl, ?_⟩, bb.out.trans (hw.2.mono (by have := bb.out.size; simpa using this))⟩
  exact hw.1.mono (by have := bb.out.size; simpa using this)
end Go.Proofs.Ytemmfnlnhekclaa

namespace Go.Proofs.Ytemmfnlnhekclaa
set_option maxRecDepth 100000
open Go.RowKit

theorem lists_ext {xs ys : List Int} {n : Nat} (hx : xs.length = n) (hy : ys.length = n) (h : ∀ j, j < n → xs.getD j 0 = ys.getD j 0) : xs = ys := by
  apply List.ext_getElem (by omega)
  intro i h1 h2
  have := h i (by omega)
  rw [getD_elem h1, getD_elem h2] at this
  exact this
theorem lists_ne {xs ys : List Int} {j : Nat} (h : xs.getD j 0 ≠ ys.getD j 0) : decide (xs = ys) = false := by
  rw [decide_eq_false_iff_not]; intro e; subst e; exact h rfl
theorem lists_len {xs ys : List Int} (h : xs.length ≠ ys.length) : decide (xs = ys) = false := by
  rw [decide_eq_false_iff_not]; intro e; subst e; exact h rfl

set_option maxHeartbeats 400000 in
theorem same_laws (a a' : Option Addr) (n m cap cap' : Nat) (xs ys : List Int) (w : World) (h : Row w a n xs) (h' : Row w a' m ys) (hm : n ≤ 9223372036854775807) (hm' : m ≤ 9223372036854775807) :
    Calls Try.prog 29 #[.slice a n cap, .slice a' m cap'] w fun e w' => e = .returned (.bool (decide (xs = ys))) ∧ Below w.heap.size w w' := by
  by_cases hnm : n = m
  case neg =>
    rw [lists_len (by rw [h.1, h'.1]; exact hnm)]
    have hb : ((n : Int) != (m : Int)) = true := by rw [bne_iff_ne]; omega
    clear h h'
    go_enter Try.func29, Try.ntmps29
    go_wp2
    go_ret
    exact ⟨rfl, Below.refl _ _⟩
  subst hnm
  have hR := Lib.hid h
  have hR' := Lib.hid h'
  clear h h'
  go_enter Try.func29, Try.ntmps29
  go_wp2
  go_loopw [5] (fun i wr => ∃ k : Nat, k ≤ n ∧ i = .int .i64 k ∧ Hid (∀ j, j < k → xs.getD j 0 = ys.getD j 0) ∧ Below w.heap.size w wr) (fun i _ => n - (intOf i).toNat)
  case atStart => exact ⟨0, Nat.zero_le _, rfl, fun j hj => absurd hj (Nat.not_lt_zero _), Below.refl _ _⟩
  case round =>
    obtain ⟨k, hk, rfl, he, hbel⟩ := hrel
    by_cases hlt : k < n
    · obtain ⟨b, off, rfl, hc⟩ := row_at hR.out hlt
      obtain ⟨b', off', rfl, hc'⟩ := row_at hR'.out hlt
      have hc := kept hbel (block_lt hc) hc
      have hc' := kept hbel (block_lt hc') hc'
      by_cases hxy : xs.getD k 0 = ys.getD k 0
      · have he' : Hid (∀ j, j < k + 1 → xs.getD j 0 = ys.getD j 0) := fun j hj => by
          by_cases e : j = k
          · subst e; exact hxy
          · exact he.out j (by omega)
        rw [← hxy] at hc'
        clear hxy
        generalize xs.getD k 0 = x at hc hc'
        go_wp2
        go_quiet (fail)
        go_wp2
        exact ⟨⟨k + 1, by omega, by go_num, he', below_drewN hbel _⟩, by simp [intOf]; omega⟩
      · have hno := Lib.hid (lists_ne hxy)
        generalize xs.getD k 0 = x at hc hxy
        generalize ys.getD k 0 = y at hc' hxy
        go_wp2
        go_quiet (fail)
        go_wp2
        go_ret
        exact ⟨by rw [hno.out]; rfl, below_drewN hbel _⟩
    · have : k = n := by omega
      subst this
      go_wp2
      go_ret
      exact ⟨by rw [decide_eq_true (lists_ext hR.out.1 hR'.out.1 he.out)]; rfl, hbel⟩

set_option maxHeartbeats 400000 in
theorem eq_laws (a a' : Option Addr) (n m cap cap' : Nat) (xs ys : List Int) (w : World) (h : Row w a n xs) (h' : Row w a' m ys) (hm : n ≤ 9223372036854775807) (hm' : m ≤ 9223372036854775807) :
    Calls Try.prog 46 #[.slice a n cap, .slice a' m cap'] w fun e w' => e = .returned (.bool (decide (xs = ys))) ∧ Below w.heap.size w w' := by
  by_cases hnm : n = m
  case neg =>
    rw [lists_len (by rw [h.1, h'.1]; exact hnm)]
    have hb : ((n : Int) != (m : Int)) = true := by rw [bne_iff_ne]; omega
    clear h h'
    go_enter Try.func46, Try.ntmps46
    go_wp2
    go_ret
    exact ⟨rfl, Below.refl _ _⟩
  subst hnm
  have hR := Lib.hid h
  have hR' := Lib.hid h'
  clear h h'
  go_enter Try.func46, Try.ntmps46
  go_wp2
  go_loopw [5] (fun i wr => ∃ k : Nat, k ≤ n ∧ i = .int .i64 k ∧ Hid (∀ j, j < k → xs.getD j 0 = ys.getD j 0) ∧ Below w.heap.size w wr) (fun i _ => n - (intOf i).toNat)
  case atStart => exact ⟨0, Nat.zero_le _, rfl, fun j hj => absurd hj (Nat.not_lt_zero _), Below.refl _ _⟩
  case round =>
    obtain ⟨k, hk, rfl, he, hbel⟩ := hrel
    by_cases hlt : k < n
    · obtain ⟨b, off, rfl, hc⟩ := row_at hR.out hlt
      obtain ⟨b', off', rfl, hc'⟩ := row_at hR'.out hlt
      have hc := kept hbel (block_lt hc) hc
      have hc' := kept hbel (block_lt hc') hc'
      by_cases hxy : xs.getD k 0 = ys.getD k 0
      · have he' : Hid (∀ j, j < k + 1 → xs.getD j 0 = ys.getD j 0) := fun j hj => by
          by_cases e : j = k
          · subst e; exact hxy
          · exact he.out j (by omega)
        rw [← hxy] at hc'
        clear hxy
        generalize xs.getD k 0 = x at hc hc'
        go_wp2
        go_quiet (fail)
        go_wp2
        exact ⟨⟨k + 1, by omega, by go_num, he', below_drewN hbel _⟩, by simp [intOf]; omega⟩
      · have hno := Lib.hid (lists_ne hxy)
        generalize xs.getD k 0 = x at hc hxy
        generalize ys.getD k 0 = y at hc' hxy
        go_wp2
        go_quiet (fail)
        go_wp2
        go_ret
        exact ⟨by rw [hno.out]; rfl, below_drewN hbel _⟩
    · have : k = n := by omega
      subst this
      go_wp2
      go_ret
      exact ⟨by rw [decide_eq_true (lists_ext hR.out.1 hR'.out.1 he.out)]; rfl, hbel⟩

/-- All numbers are in a range. -/
def allIn (xs : List Int) (lo hi : Int) : Bool := xs.all fun x => inB x lo hi
theorem allIn_iff {xs : List Int} {lo hi : Int} : allIn xs lo hi = true ↔ ∀ i, i < xs.length → lo ≤ xs.getD i 0 ∧ xs.getD i 0 ≤ hi := by
  rw [allIn, List.all_eq_true]
  constructor
  · intro h i hi; exact inB_iff.1 (h _ (by rw [getD_elem hi]; exact List.getElem_mem hi))
  · intro h x hx
    obtain ⟨i, hi, rfl⟩ := List.getElem_of_mem hx
    have := h i hi
    rw [getD_elem hi] at this
    exact inB_iff.2 this
theorem allIn_no {xs : List Int} {lo hi : Int} {i : Nat} (h : i < xs.length) (h2 : xs.getD i 0 < lo ∨ hi < xs.getD i 0) : allIn xs lo hi = false := by
  rw [Bool.eq_false_iff]; intro e
  have := allIn_iff.1 e i h
  omega

def sumsB (rows cols : List Int) : Bool := inB rows.length 1 6 && (inB cols.length 1 6 && (allIn rows 0 cols.length && allIn cols 0 rows.length))
theorem sumsB_1 {rows cols : List Int} (h : inB rows.length 1 6 = false) : sumsB rows cols = false := by simp [sumsB, h]
theorem sumsB_2 {rows cols : List Int} (h : inB cols.length 1 6 = false) : sumsB rows cols = false := by simp [sumsB, h]
theorem sumsB_3 {rows cols : List Int} (h : allIn rows 0 cols.length = false) : sumsB rows cols = false := by simp [sumsB, h]
theorem sumsB_4 {rows cols : List Int} (h : allIn cols 0 rows.length = false) : sumsB rows cols = false := by simp [sumsB, h]
theorem sumsB_5 {rows cols : List Int} (h1 : inB rows.length 1 6 = true) (h2 : inB cols.length 1 6 = true) (h3 : allIn rows 0 cols.length = true) (h4 : allIn cols 0 rows.length = true) : sumsB rows cols = true := by simp [sumsB, h1, h2, h3, h4]

/-- An image fits sums. -/
def fitB (W : Int) (xs rows cols : List Int) : Bool := validB W xs && (decide (rsOut W xs = rows) && decide (csOut W xs = cols))
theorem fitB_1 {W : Int} {xs rows cols : List Int} (h : validB W xs = false) : fitB W xs rows cols = false := by simp [fitB, h]
theorem fitB_2 {W : Int} {xs rows cols : List Int} (h : decide (rsOut W xs = rows) = false) : fitB W xs rows cols = false := by simp only [fitB, h, Bool.false_and, Bool.and_false]
theorem fitB_3 {W : Int} {xs rows cols : List Int} (h : decide (csOut W xs = cols) = false) : fitB W xs rows cols = false := by simp only [fitB, h, Bool.and_false]
theorem fitB_4 {W : Int} {xs rows cols : List Int} (h : validB W xs = true) (h2 : decide (rsOut W xs = rows) = true) (h3 : decide (csOut W xs = cols) = true) : fitB W xs rows cols = true := by simp only [fitB, h, h2, h3, Bool.and_true]
theorem rsOut_len (W : Int) (xs : List Int) : (rsOut W xs).length ≤ xs.length := by unfold rsOut; split <;> simp [rs_len]
theorem rsOut_six (W : Int) (xs : List Int) : (rsOut W xs).length ≤ 6 := by
  unfold rsOut; split
  · rename_i h; have := validB_len h; rw [rs_len]; omega
  · simp
theorem csOut_len (W : Int) (xs : List Int) : (csOut W xs).length ≤ 6 := by
  unfold csOut; split
  · rename_i h; have := validB_W h; rw [cs_len]; omega
  · simp

end Go.Proofs.Ytemmfnlnhekclaa

namespace Go.Proofs.Ytemmfnlnhekclaa
set_option maxRecDepth 100000
open Go.RowKit

/-- Two images have the same sums. -/
def sameB (V : Int) (xs : List Int) (W : Int) (ys : List Int) : Bool := fitB W ys (rsOut V xs) (csOut V xs)
theorem rsOut_yes {W : Int} {xs : List Int} (h : validB W xs = true) : rsOut W xs = rsL xs W.toNat xs.length := if_pos h
theorem csOut_yes {W : Int} {xs : List Int} (h : validB W xs = true) : csOut W xs = csL xs xs.length W.toNat := if_pos h
theorem rsOut_no {W : Int} {xs : List Int} (h : validB W xs = false) : rsOut W xs = [] := if_neg (by rw [h]; exact Bool.false_ne_true)
theorem csOut_no {W : Int} {xs : List Int} (h : validB W xs = false) : csOut W xs = [] := if_neg (by rw [h]; exact Bool.false_ne_true)
theorem rsOut_ne {W : Int} {xs : List Int} (h : validB W xs = true) : rsOut W xs ≠ [] := by
  intro e
  have := congrArg List.length e
  rw [rsOut_yes h, rs_len, List.length_nil] at this
  have h2 := validB_len h
  omega
theorem same_flip (V : Int) (xs : List Int) (W : Int) (ys : List Int) : (validB W ys && fitB V xs (rsOut W ys) (csOut W ys)) = sameB V xs W ys := by
  unfold sameB fitB
  by_cases h1 : validB W ys = true
  · by_cases h2 : validB V xs = true
    · rw [h1, h2]; simp only [Bool.true_and]
      congr 1 <;> exact decide_eq_decide.2 ⟨Eq.symm, Eq.symm⟩
    · have h2 : validB V xs = false := by simpa using h2
      rw [h1, h2, rsOut_no h2, decide_eq_false (rsOut_ne h1)]; simp
  · have h1 : validB W ys = false := by simpa using h1
    rw [h1]; simp

end Go.Proofs.Ytemmfnlnhekclaa

namespace Go.Proofs.Ytemmfnlnhekclaa
set_option maxRecDepth 100000
open Go.RowKit

theorem rs_get {xs : List Int} {W n i : Nat} (hi : i < n) : (rsL xs W n).getD i 0 = cntI (xs.getD i 0) W := rows_get (fun i => cntI (xs.getD i 0) W) hi
theorem cs_get {xs : List Int} {W n j : Nat} (hj : j < W) : (csL xs n W).getD j 0 = csI xs j n := rows_get (fun j => csI xs j n) hj
theorem Im.rs {W n : Nat} {xs : List Int} (h : Im W n xs) : rsOut W xs = rsL xs W n := by
  rw [rsOut, if_pos h.valid, h.hl, Int.toNat_natCast]
theorem Im.cs {W n : Nat} {xs : List Int} (h : Im W n xs) : csOut W xs = csL xs n W := by
  rw [csOut, if_pos h.valid, h.hl, Int.toNat_natCast]
theorem rs_total (xs : List Int) (W n : Nat) : sumI (fun i => (rsL xs W n).getD i 0) n = manyI W xs n := by
  rw [many_sum]
  exact sum_ext fun _ hi => by rw [rs_get hi, cnt_sum]
theorem cs_total (xs : List Int) (W n : Nat) : sumI (fun j => (csL xs n W).getD j 0) W = manyI W xs n := by
  rw [many_sum, sum_swap]
  exact sum_ext fun _ hj => cs_get hj
theorem Im.turn_cs {W n : Nat} {xs : List Int} (h : Im W n xs) : csL (turnL xs W n) W n = rsL xs W n :=
  rows_ext fun _ hi => by
    rw [cnt_sum]
    exact sum_ext fun _ hj => h.turn_bit hi hj
theorem Im.turn_rs {W n : Nat} {xs : List Int} (h : Im W n xs) : rsL (turnL xs W n) n W = csL xs n W :=
  rows_ext fun _ hj => by
    rw [cnt_sum]
    exact sum_ext fun _ hi => h.turn_bit hi hj
theorem Im.mir_rs {W n : Nat} {xs : List Int} (h : Im W n xs) : rsL (mirL xs W n) W n = rsL xs W n :=
  rows_ext fun i hi => by
    rw [show (mirL xs W n).getD i 0 = mirI W (xs.getD i 0) W from rows_get (fun i => mirI W (xs.getD i 0) W) hi]
    obtain ⟨m, e, hm⟩ := h.nat hi
    rw [e]
    exact (mirb_nat W (by have := h.w6; omega) m hm).2.2.1
theorem Im.mir_csI {W n : Nat} {xs : List Int} (h : Im W n xs) {j : Nat} (hj : j < W) : csI (mirL xs W n) j n = csI xs (W - 1 - j) n :=
  sum_ext fun _ hi => h.mir_bit' hi hj
theorem Im.mir_cs {W n : Nat} {xs : List Int} (h : Im W n xs) {j : Nat} (hj : j < W) : (csL (mirL xs W n) n W).getD j 0 = (csL xs n W).getD (W - 1 - j) 0 := by
  rw [cs_get hj, cs_get (by omega), h.mir_csI hj]
theorem Im.oth_rs {W n : Nat} {xs : List Int} (h : Im W n xs) : rsL (othL xs W n) W n = rowsL (fun i => W - (rsL xs W n).getD i 0) n :=
  rows_ext fun i hi => by
    obtain ⟨m, hm, hm64⟩ := h.nat hi
    have := (h.row i hi).2
    rw [rs_get hi, oth_get hi, hm]
    exact (othb_nat W (by have := h.w6; omega) m hm64 (by rw [← hm]; exact this)).2.1
theorem sum_sub (f : Nat → Int) (k : Nat) : sumI (fun i => 1 - f i) k = k - sumI f k := by
  induction k with
  | zero => rfl
  | succ k ih => simp only [sumI]; rw [ih]; omega
theorem Im.oth_cs {W n : Nat} {xs : List Int} (h : Im W n xs) : csL (othL xs W n) n W = rowsL (fun j => n - (csL xs n W).getD j 0) W :=
  rows_ext fun j hj => by
    rw [cs_get hj]
    unfold csI
    rw [← sum_sub]
    exact sum_ext fun _ hi => h.oth_bit hi hj

theorem Im.ok {W n : Nat} {xs : List Int} (h : Im W n xs) : n ≤ 9223372036854775807 ∧ W ≤ 9223372036854775807 := by have := h.l6; have := h.w6; omega
theorem Im.rs_bd {W n : Nat} {xs : List Int} (_ : Im W n xs) {i : Nat} (hi : i < n) : 0 ≤ (rsL xs W n).getD i 0 ∧ (rsL xs W n).getD i 0 ≤ W := by rw [rs_get hi]; exact cnt_bd _ _
theorem Im.cs_bd {W n : Nat} {xs : List Int} (_ : Im W n xs) {j : Nat} (hj : j < W) : 0 ≤ (csL xs n W).getD j 0 ∧ (csL xs n W).getD j 0 ≤ n := by rw [cs_get hj]; exact csI_bd _ _ _
theorem Im.sumsV {W n : Nat} {xs : List Int} (h : Im W n xs) : sumsB (rsL xs W n) (csL xs n W) = true := by
  have := h.w1; have := h.w6; have := h.l1; have := h.l6
  refine sumsB_5 (by rw [rs_len]; exact inB_yes (by omega) (by omega)) (by rw [cs_len]; exact inB_yes (by omega) (by omega)) (allIn_iff.2 fun i hi => ?_) (allIn_iff.2 fun i hi => ?_)
  · rw [rs_len] at hi; rw [cs_len]; exact h.rs_bd hi
  · rw [cs_len] at hi; rw [rs_len]; exact h.cs_bd hi

theorem sum_small {f : Nat → Int} {k : Nat} (h : ∀ i, i < k → 0 ≤ f i ∧ f i ≤ 6) : 0 ≤ sumI f k ∧ sumI f k ≤ 6 * k := by
  induction k with
  | zero => simp [sumI]
  | succ k ih => have := ih fun i hi => h i (by omega); have := h k (by omega); simp only [sumI]; omega

set_option maxHeartbeats 400000 in
theorem sumOf_any (a : Option Addr) (n cap : Nat) (xs : List Int) (w : World) (h : Row w a n xs) (hn : n ≤ 6) (hb : ∀ i, i < n → 0 ≤ xs.getD i 0 ∧ xs.getD i 0 ≤ 6) :
    Calls Try.prog 30 #[.slice a n cap] w fun e w' => e = .returned (.int .i64 (sumI (fun i => xs.getD i 0) n)) ∧ w = w' := by
  have hR := Lib.hid h
  have hsm : Hid (∀ k, k ≤ n → 0 ≤ sumI (fun i => xs.getD i 0) k ∧ sumI (fun i => xs.getD i 0) k ≤ 6 * k) := fun k hk => sum_small fun i hi => hb i (by omega)
  have hb := Lib.hid hb
  clear h
  go_enter Try.func30, Try.ntmps30
  go_wp2
  go_loop [3, 4] (fun o i => ∃ k : Nat, k ≤ n ∧ i = .int .i64 k ∧ o = .int .i64 (sumI (fun i => xs.getD i 0) k)) (fun _ i => n - (intOf i).toNat)
  case atStart => exact ⟨0, Nat.zero_le _, rfl, rfl⟩
  case round =>
    obtain ⟨k, hk, rfl, rfl⟩ := hrel
    have hs := hsm.out k hk
    by_cases hlt : k < n
    · obtain ⟨b, off, rfl, hc⟩ := row_at hR.out hlt
      have hx := hb.out k hlt
      have hsn : sumI (fun i => xs.getD i 0) (k + 1) = sumI (fun i => xs.getD i 0) k + xs.getD k 0 := rfl
      generalize sumI (fun i => xs.getD i 0) k = q at hs hsn
      generalize xs.getD k 0 = x at hc hx hsn
      have hsn := Lib.hid hsn
      go_wp2
      exact ⟨⟨k + 1, by omega, by go_num, by rw [hsn.out]⟩, by simp [intOf]; omega⟩
    · have : k = n := by omega
      subst this
      go_wp2
      go_ret
      exact ⟨rfl, rfl⟩

/-- What a function that gives a list of so many numbers leaves. -/
def GivesK (w : World) (k : Nat) (L : List Int) (e : Ending) (w' : World) : Prop :=
  (∃ a cap, e = .returned (.slice a k cap) ∧ OwnI w' w.heap.size a k cap L) ∧ Below w.heap.size w w'
theorem GivesL.k {w w' : World} {L M : List Int} {e : Ending} {k : Nat} (h : GivesL w L e w') (hl : L.length = k) (hM : L = M) : GivesK w k M e w' := by subst hl; subst hM; exact h
theorem sumOf_bel (a : Option Addr) (n cap : Nat) (xs : List Int) (w : World) (h : Row w a n xs) (hn : n ≤ 6) (hb : ∀ i, i < n → 0 ≤ xs.getD i 0 ∧ xs.getD i 0 ≤ 6) (q : Int) (hq : sumI (fun i => xs.getD i 0) n = q) :
    Calls Try.prog 30 #[.slice a n cap] w fun e w' => e = .returned (.int .i64 q) ∧ Below w.heap.size w w' := by
  subst hq; exact (sumOf_any a n cap xs w h hn hb).mono fun _ _ h => ⟨h.1, h.2 ▸ Below.refl _ _⟩
theorem rs_ok {W n : Nat} {xs : List Int} (h : Im W n xs) (s : Option Addr) (cg : Nat) (w : World) (hR : Row w s n xs) :
    Calls Try.prog 33 #[.agg #[.int .i64 W, .slice s n cg]] w (GivesK w n (rsL xs W n)) :=
  (rsums_impl W s n cg xs w hR h.ok.1).mono fun _ _ hg => hg.k (by rw [h.rs, rs_len]) h.rs
theorem cs_ok {W n : Nat} {xs : List Int} (h : Im W n xs) (s : Option Addr) (cg : Nat) (w : World) (hR : Row w s n xs) :
    Calls Try.prog 32 #[.agg #[.int .i64 W, .slice s n cg]] w (GivesK w W (csL xs n W)) :=
  (csums_impl W s n cg xs w hR h.ok.1).mono fun _ _ hg => hg.k (by rw [h.cs, cs_len]) h.cs
theorem rs_no {W : Int} {n : Nat} {xs : List Int} (h : validB W xs = false) (hn : n ≤ 6) (s : Option Addr) (cg : Nat) (w : World) (hR : Row w s n xs) :
    Calls Try.prog 33 #[.agg #[.int .i64 W, .slice s n cg]] w (GivesK w 0 []) :=
  (rsums_impl W s n cg xs w hR (by omega)).mono fun _ _ hg => hg.k (by rw [rsOut, h]; rfl) (by rw [rsOut, h]; rfl)
theorem cs_no {W : Int} {n : Nat} {xs : List Int} (h : validB W xs = false) (hn : n ≤ 6) (s : Option Addr) (cg : Nat) (w : World) (hR : Row w s n xs) :
    Calls Try.prog 32 #[.agg #[.int .i64 W, .slice s n cg]] w (GivesK w 0 []) :=
  (csums_impl W s n cg xs w hR (by omega)).mono fun _ _ hg => hg.k (by rw [csOut, h]; rfl) (by rw [csOut, h]; rfl)
theorem mirror_ok {W n : Nat} {xs : List Int} (h : Im W n xs) (s : Option Addr) (cg : Nat) (w : World) (hR : Row w s n xs) :
    Calls Try.prog 36 #[.agg #[.int .i64 W, .slice s n cg]] w (GivesI w W n (mirL xs W n)) := by
  have hc := mirror_impl W s n cg xs w hR (by have := h.l6; omega)
  rw [if_pos h.valid, Int.toNat_natCast] at hc
  exact hc.mono fun e w' hg => hg.ok (rows_len _ _)
end Go.Proofs.Ytemmfnlnhekclaa

namespace Go.Proofs.Ytemmfnlnhekclaa
set_option maxRecDepth 100000
open Go.RowKit

/-- Two lists of the call's own, and the reader, in the middle of a drawing function. -/
structure SS (w wr : World) (r : Nat) (a : Option Addr) (len cap : Nat) (zs : List Int) (p : Nat) (g n c : Nat) (xs : List Int) (g' m c' : Nat) (ys : List Int) : Prop where
  oR : OwnI wr w.heap.size (some ⟨g, 0, none⟩) n c xs
  oC : OwnI wr w.heap.size (some ⟨g', 0, none⟩) m c' ys
  ne : g ≠ g'
  rd : Rd wr r a len cap zs p
  gr : w.grownBy wr (some r)
  hr : r < w.heap.size
  far : ∀ b off, a = some ⟨b, off, none⟩ → 0 < len → b < w.heap.size
theorem own_ge {w : World} {B g n c : Nat} {xs : List Int} (h : OwnI w B (some ⟨g, 0, none⟩) n c xs) : B ≤ g ∧ g < w.heap.size := rng_own h _ rfl
theorem SS.pick {w wr w1 : World} {r : Nat} {a : Option Addr} {len cap : Nat} {zs : List Int} {p p' g n c : Nat} {xs : List Int} {g' m c' : Nat} {ys : List Int} (h : SS w wr r a len cap zs p g n c xs g' m c' ys) (hr : Rd w1 r a len cap zs p') (hg : wr.grownBy w1 (some r)) : SS w w1 r a len cap zs p' g n c xs g' m c' ys :=
  ⟨h.oR.other hg h.hr, h.oC.other hg h.hr, h.ne, hr, grown_trans h.gr hg, h.hr, h.far⟩
theorem SS.setR {w wr : World} {r : Nat} {a : Option Addr} {len cap : Nat} {zs : List Int} {p g n c : Nat} {xs : List Int} {g' m c' : Nat} {ys : List Int} (h : SS w wr r a len cap zs p g n c xs g' m c' ys) (k : Nat) (v : Int) : SS w (wr.setCell ⟨g, k, none⟩ (.int .i64 v)) r a len cap zs p g n c (xs.set k v) g' m c' ys := by
  have h1 := own_ge h.oR
  have h2 := own_ge h.oC
  have h3 := h.ne
  have h4 := h.hr
  exact ⟨h.oR.set k v, World.ownsRow.kept h.oC (grown_set (g := g) (World.grownBy.refl _ _)) (.inr (by simp [Value.ownBlock]; omega)), h.ne, h.rd.apart (grown_set (World.grownBy.refl _ _)) (by omega) (fun b off e hl => by have := h.far b off e hl; omega), grown_then h.gr ((Below.refl _ _).setCell (by simp; omega) _), h.hr, h.far⟩
theorem SS.setC {w wr : World} {r : Nat} {a : Option Addr} {len cap : Nat} {zs : List Int} {p g n c : Nat} {xs : List Int} {g' m c' : Nat} {ys : List Int} (h : SS w wr r a len cap zs p g n c xs g' m c' ys) (k : Nat) (v : Int) : SS w (wr.setCell ⟨g', k, none⟩ (.int .i64 v)) r a len cap zs p g n c xs g' m c' (ys.set k v) := by
  have h1 := own_ge h.oR
  have h2 := own_ge h.oC
  have h3 := h.ne
  have h4 := h.hr
  exact ⟨World.ownsRow.kept h.oR (grown_set (g := g') (World.grownBy.refl _ _)) (.inr (by simp [Value.ownBlock]; omega)), h.oC.set k v, h.ne, h.rd.apart (grown_set (World.grownBy.refl _ _)) (by omega) (fun b off e hl => by have := h.far b off e hl; omega), grown_then h.gr ((Below.refl _ _).setCell (by simp; omega) _), h.hr, h.far⟩
theorem set_bd {xs : List Int} {n k : Nat} {v lo hi : Int} (hl : xs.length = n) (h : ∀ i, i < n → lo ≤ xs.getD i 0 ∧ xs.getD i 0 ≤ hi) (hv : lo ≤ v ∧ v ≤ hi) : ∀ i, i < n → lo ≤ (xs.set k v).getD i 0 ∧ (xs.set k v).getD i 0 ≤ hi := by
  intro i hi
  by_cases e : i = k
  · subst e; rw [getD_elem (by rw [List.length_set]; omega)]; simpa using hv
  · have := h i hi
    rw [getD_elem (by omega)] at this
    rw [getD_elem (by rw [List.length_set]; omega), List.getElem_set_ne (by omega)]; exact this
theorem bd_wide {xs : List Int} {n : Nat} {lo hi lo' hi' : Int} (h : ∀ i, i < n → lo ≤ xs.getD i 0 ∧ xs.getD i 0 ≤ hi) (h1 : lo' ≤ lo) (h2 : hi ≤ hi') : ∀ i, i < n → lo' ≤ xs.getD i 0 ∧ xs.getD i 0 ≤ hi' := fun i hi => by have := h i hi; omega

/-- What l91Sums leaves: two lists of small numbers. -/
def SumsD (w : World) (r : Nat) (a : Option Addr) (len cap : Nat) (zs : List Int) (p : Nat) (e : Ending) (w' : World) : Prop :=
  ∃ (g n c : Nat) (xs : List Int) (g' m c' : Nat) (ys : List Int) (p' : Nat), e = .returned (.tuple #[.slice (some ⟨g, 0, none⟩) n c, .slice (some ⟨g', 0, none⟩) m c']) ∧ SS w w' r a len cap zs p' g n c xs g' m c' ys ∧ p' ≤ p + 20 ∧ (1 ≤ n ∧ n ≤ 6 ∧ 1 ≤ m ∧ m ≤ 6) ∧ (∀ i, i < n → -1 ≤ xs.getD i 0 ∧ xs.getD i 0 ≤ 7) ∧ (∀ i, i < m → -1 ≤ ys.getD i 0 ∧ ys.getD i 0 ≤ 7)

/-- What l91SumsWrong leaves: two lists of small numbers, perhaps none, perhaps many. -/
def SumsW (w : World) (r : Nat) (a : Option Addr) (len cap : Nat) (zs : List Int) (p : Nat) (e : Ending) (w' : World) : Prop :=
  ∃ (aR : Option Addr) (n c : Nat) (xs : List Int) (aC : Option Addr) (m c' : Nat) (ys : List Int) (p' : Nat), e = .returned (.tuple #[.slice aR n c, .slice aC m c']) ∧ OwnI w' w.heap.size aR n c xs ∧ OwnI w' w.heap.size aC m c' ys ∧ (∀ g g', aR = some ⟨g, 0, none⟩ → aC = some ⟨g', 0, none⟩ → g ≠ g') ∧ Rd w' r a len cap zs p' ∧ w.grownBy w' (some r) ∧ p' ≤ p + 21 ∧ (n ≤ 6 ∧ 1 ≤ m ∧ m ≤ 12) ∧ (∀ i, i < n → -1 ≤ xs.getD i 0 ∧ xs.getD i 0 ≤ 7) ∧ (∀ i, i < m → -1 ≤ ys.getD i 0 ∧ ys.getD i 0 ≤ 7)

end Go.Proofs.Ytemmfnlnhekclaa

namespace Go.Proofs.Ytemmfnlnhekclaa
set_option maxRecDepth 100000
open Go.RowKit

theorem sumsB_flip {xs ys : List Int} (h : sumsB xs ys = true) : sumsB ys xs = true := by
  unfold sumsB at *
  simp only [Bool.and_eq_true] at *
  exact ⟨h.2.1, h.1, h.2.2.2, h.2.2.1⟩
theorem sumsB_parts {xs ys : List Int} (h : sumsB xs ys = true) : (1 ≤ xs.length ∧ xs.length ≤ 6) ∧ (1 ≤ ys.length ∧ ys.length ≤ 6) ∧ (∀ i, i < xs.length → 0 ≤ xs.getD i 0 ∧ xs.getD i 0 ≤ ys.length) ∧ (∀ i, i < ys.length → 0 ≤ ys.getD i 0 ∧ ys.getD i 0 ≤ xs.length) := by
  unfold sumsB at h
  simp only [Bool.and_eq_true] at h
  have h1 := inB_iff.1 h.1
  have h2 := inB_iff.1 h.2.1
  exact ⟨by omega, by omega, allIn_iff.1 h.2.2.1, allIn_iff.1 h.2.2.2⟩
theorem row_news {w : World} {b off n : Nat} {xs : List Int} (h : Row w (some ⟨b, off, none⟩) n xs) (hn : 0 < n := by omega) : ∀ j u, (xs.map (Value.int .i64))[j]? = some u → w.cell? ((⟨b, off, none⟩ : Addr).add j) = some u := by
  obtain ⟨b', off', e, hc⟩ := h.2.resolve_left (by omega)
  cases e
  exact news_of h.1 hc

/-- What a function that draws sums leaves. -/
def DrawnS (w : World) (e : Ending) (w' : World) : Prop :=
  ∃ (aR : Option Addr) (n c : Nat) (xs : List Int) (aC : Option Addr) (m c' : Nat) (ys : List Int), e = .returned (.tuple #[.slice aR n c, .slice aC m c']) ∧ Row w' aR n xs ∧ Row w' aC m ys ∧ (n ≤ 6 ∧ 1 ≤ m ∧ m ≤ 12) ∧ (n ≤ c ∧ m ≤ c') ∧ (∀ i, i < n → -1 ≤ xs.getD i 0 ∧ xs.getD i 0 ≤ 7) ∧ (∀ i, i < m → -1 ≤ ys.getD i 0 ∧ ys.getD i 0 ≤ 7) ∧ Below w.heap.size w w'

theorem rsOut_bd (W : Int) (xs : List Int) : ∀ i, i < (rsOut W xs).length → -1 ≤ (rsOut W xs).getD i 0 ∧ (rsOut W xs).getD i 0 ≤ 7 := by
  unfold rsOut
  by_cases hv : validB W xs = true
  · rw [if_pos hv]
    intro i hi
    rw [rs_len] at hi
    rw [rs_get hi]
    have := cnt_bd (xs.getD i 0) W.toNat
    have := validB_W hv
    omega
  · rw [if_neg hv]; intro i hi; simp at hi
theorem csOut_bd (W : Int) (xs : List Int) : ∀ i, i < (csOut W xs).length → -1 ≤ (csOut W xs).getD i 0 ∧ (csOut W xs).getD i 0 ≤ 7 := by
  unfold csOut
  by_cases hv : validB W xs = true
  · rw [if_pos hv]
    intro i hi
    rw [cs_len] at hi
    rw [cs_get hi]
    have := csI_bd xs i xs.length
    have := validB_len hv
    omega
  · rw [if_neg hv]; intro i hi; simp at hi
/-- What DrawSumsFit leaves. -/
def DrawnF (w : World) (e : Ending) (w' : World) : Prop :=
  ∃ (W : Int) (s : Option Addr) (l cg : Nat) (xs : List Int) (aR : Option Addr) (n c : Nat) (rows : List Int) (aC : Option Addr) (m c' : Nat) (cols : List Int), e = .returned (.tuple #[.agg #[.int .i64 W, .slice s l cg], .slice aR n c, .slice aC m c']) ∧ Row w' s l xs ∧ Row w' aR n rows ∧ Row w' aC m cols ∧ (l ≤ 6 ∧ n ≤ 6 ∧ m ≤ 12) ∧ (l ≤ cg ∧ n ≤ c ∧ m ≤ c') ∧ (∀ i, i < n → -1 ≤ rows.getD i 0 ∧ rows.getD i 0 ≤ 7) ∧ (∀ i, i < m → -1 ≤ cols.getD i 0 ∧ cols.getD i 0 ≤ 7) ∧ Below w.heap.size w w'

end Go.Proofs.Ytemmfnlnhekclaa

namespace Go.Proofs.Ytemmfnlnhekclaa
set_option maxRecDepth 100000
open Go.RowKit

def flipD (b : Bool) : Int := if b = true then -1 else 1
theorem flipD_bd (b : Bool) : -1 ≤ flipD b ∧ flipD b ≤ 1 := by cases b <;> simp [flipD]
theorem sum_one {f g : Nat → Int} {k m : Nat} {d : Int} (hm : m < k) (hf : f m = g m + d) (h : ∀ i, i < k → i ≠ m → f i = g i) : sumI f k = sumI g k + d := by
  induction k with
  | zero => omega
  | succ k ih =>
    simp only [sumI]
    by_cases e : m = k
    · subst e
      rw [sum_ext (f := f) (g := g) fun i hi => h i (by omega) (by omega), hf]; omega
    · rw [ih (by omega) fun i hi => h i (by omega), h k (by omega) (by omega)]; omega
theorem Im.flip_bit {W n : Nat} {xs : List Int} (h : Im W n xs) {i j k l : Nat} (hi : i < n) (hj : j < W) (hk : k < n) (hl : l < W) :
    bitI ((putL xs i j (!hasB W xs i j)).getD k 0) l = if k = i ∧ l = j then bitI (xs.getD k 0) l + flipD (hasB W xs i j) else bitI (xs.getD k 0) l := by
  rw [h.put_bit hi hj hk hl]
  by_cases e : k = i ∧ l = j
  · rw [if_pos e, if_pos e, e.1, e.2, h.has hi hj]
    have := bit_01 (xs.getD i 0) j
    rcases (show bitI (xs.getD i 0) j = 0 ∨ bitI (xs.getD i 0) j = 1 by omega) with e | e <;> rw [e] <;> rfl
  · rw [if_neg e, if_neg e]
theorem getD_set {xs : List Int} {n i k : Nat} {v : Int} (hl : xs.length = n) (hk : k < n) : (xs.set i v).getD k 0 = if k = i then v else xs.getD k 0 := by
  by_cases e : k = i
  · subst e; rw [if_pos rfl, getD_elem (by rw [List.length_set]; omega), List.getElem_set_self]
  · rw [if_neg e, getD_elem (by rw [List.length_set]; omega), List.getElem_set_ne (by omega), getD_elem (by omega)]
theorem Im.flip_rs {W n : Nat} {xs : List Int} (h : Im W n xs) {i j : Nat} (hi : i < n) (hj : j < W) :
    rsL (putL xs i j (!hasB W xs i j)) W n = (rsL xs W n).set i ((rsL xs W n).getD i 0 + flipD (hasB W xs i j)) := by
  refine lists_ext (n := n) (rs_len _ _ _) (by rw [List.length_set, rs_len]) fun k hk => ?_
  rw [getD_set (rs_len _ _ _) hk, rs_get hk, rs_get hk, rs_get hi, cnt_sum, cnt_sum, cnt_sum]
  by_cases e : k = i
  · subst e
    rw [if_pos rfl]
    refine sum_one hj ?_ fun l hl hne => ?_
    · rw [h.flip_bit hi hj hk hj, if_pos ⟨rfl, rfl⟩]
    · rw [h.flip_bit hi hj hk hl, if_neg (by omega)]
  · rw [if_neg e]
    exact sum_ext fun l hl => by rw [h.flip_bit hi hj hk hl, if_neg (by omega)]
theorem Im.flip_cs {W n : Nat} {xs : List Int} (h : Im W n xs) {i j : Nat} (hi : i < n) (hj : j < W) :
    csL (putL xs i j (!hasB W xs i j)) n W = (csL xs n W).set j ((csL xs n W).getD j 0 + flipD (hasB W xs i j)) := by
  refine lists_ext (n := W) (cs_len _ _ _) (by rw [List.length_set, cs_len]) fun l hl => ?_
  rw [getD_set (cs_len _ _ _) hl, cs_get hl, cs_get hl, cs_get hj]
  unfold csI
  by_cases e : l = j
  · subst e
    rw [if_pos rfl]
    refine sum_one hi ?_ fun k hk hne => ?_
    · rw [h.flip_bit hi hj hi hj, if_pos ⟨rfl, rfl⟩]
    · rw [h.flip_bit hi hj hk hj, if_neg (by omega)]
  · rw [if_neg e]
    exact sum_ext fun k hk => by rw [h.flip_bit hi hj hk hl, if_neg (by omega)]
/-- One cell changed: the sums differ. -/
theorem Im.flip_ne {W n : Nat} {xs : List Int} (h : Im W n xs) {i j : Nat} (hi : i < n) (hj : j < W) : rsL (putL xs i j (!hasB W xs i j)) W n ≠ rsL xs W n := by
  rw [h.flip_rs hi hj]
  intro e
  have e : ((rsL xs W n).set i ((rsL xs W n).getD i 0 + flipD (hasB W xs i j))).getD i 0 = (rsL xs W n).getD i 0 := congrArg (fun L : List Int => L.getD i 0) e
  rw [getD_set (rs_len _ _ _) hi, if_pos rfl] at e
  cases hb : hasB W xs i j <;> rw [hb] at e <;> simp only [flipD] at e <;> simp at e <;> omega
end Go.Proofs.Ytemmfnlnhekclaa
