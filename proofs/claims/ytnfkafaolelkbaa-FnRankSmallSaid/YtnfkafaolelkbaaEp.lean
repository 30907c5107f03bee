/-
  The contracts of the functions that give an image, at valid images; boxes of a law's middle.
  Plain facts on images with a cell put; putting at valid images and at others; the laws' own bit.
  Row sums and column sums: plain facts, and the contracts of the model's functions that make them.
  The contracts of the program's functions that make sums, and of the model's column sums.
  The contracts of the functions that compare lists, and of SumsValid, SumsFit and SumsSame.
  The contracts of SumsSame of both sides.
  Plain facts on row sums and column sums: turned, mirrored, other cells; the laws' sum of a list.
  The contracts of the laws' drawing functions that draw sums.
  The contracts of DrawSumsValid and DrawSumsFit.
  Plain facts on the sums of an image with one cell changed.
-/
import Derived.Test.YtnfkafaolelkbaaHc
import Derived.Test.YtnfkafaolelkbaaK
import Derived.Test.YtnfkafaolelkbaaA
import Derived.Lib.SmallJoins
import Derived.Deep.AppendLies
import Derived.Shelf.Abstract
import Derived.Deep.RegionLaw
import Derived.Maps.AppendAt

namespace Go.Proofs.Ytnfkafaolelkbaa
set_option maxRecDepth 100000
open Go.RowKit

theorem Ctx.a3 {w wr : World} {b0 b1 b2 b3 : BI} {l : List BI} (h : Ctx w wr (b0 :: b1 :: b2 :: b3 :: l)) : b3.At wr := h.pop.a2
theorem Ctx.a4 {w wr : World} {b0 b1 b2 b3 b4 : BI} {l : List BI} (h : Ctx w wr (b0 :: b1 :: b2 :: b3 :: b4 :: l)) : b4.At wr := h.pop.a3
theorem Ctx.a5 {w wr : World} {b0 b1 b2 b3 b4 b5 : BI} {l : List BI} (h : Ctx w wr (b0 :: b1 :: b2 :: b3 :: b4 :: b5 :: l)) : b5.At wr := h.pop.a4
theorem Ctx.a6 {w wr : World} {b0 b1 b2 b3 b4 b5 b6 : BI} {l : List BI} (h : Ctx w wr (b0 :: b1 :: b2 :: b3 :: b4 :: b5 :: b6 :: l)) : b6.At wr := h.pop.a5
def Olds (k : Nat) (l : List BI) : Prop := ∀ b ∈ l, b.kb < k ∧ ∀ q off, b.s = some ⟨q, off, none⟩ → 0 < b.n → q < k
theorem Ctx.olds {w wr : World} {l : List BI} (h : Ctx w wr l) {k : Nat} (hk : wr.heap.size ≤ k) : Olds k l := fun b hb =>
  ⟨Nat.lt_of_lt_of_le (show b.kb < wr.heap.size from block_lt (h.all b hb).c0) hk, fun q off e hn => Nat.lt_of_lt_of_le (row_lt (h.all b hb).row q off e hn) hk⟩
/-- Another image is put into the first box. -/
theorem Ctx.putk {w wr : World} {b0 : BI} {l : List BI} {W : Int} {s : Option Addr} {n cg : Nat} {xs : List Int} (h : Ctx w wr (b0 :: l)) (hR : Row wr s n xs) (hs : ∀ b off, s = some ⟨b, off, none⟩ → 0 < n → b ≠ b0.kb) (hl : Olds b0.kb l) (hw : w.heap.size ≤ b0.kb) :
    Ctx w ((wr.setCell ⟨b0.kb, 0, none⟩ (.int .i64 W)).setCell ⟨b0.kb, 1, none⟩ (.slice s n cg)) (⟨b0.kb, W, s, n, cg, xs⟩ :: l) := by
  have hg : wr.grownBy ((wr.setCell ⟨b0.kb, 0, none⟩ (.int .i64 W)).setCell ⟨b0.kb, 1, none⟩ (.slice s n cg)) (some b0.kb) := grown_set (grown_set (World.grownBy.refl _ _))
  refine ⟨fun b hb => ?_, (h.bel.setCell (by simpa using hw) _).setCell (by simpa using hw) _⟩
  rcases List.mem_cons.1 hb with e | hb
  · subst e
    refine ⟨?_, ?_, hR.apart hg (fun b off e hl => by have := hs b off e hl; simpa using this)⟩
    · rw [World.cell?_setCell_other _ _ _ _ (by simp)]; exact World.cell?_setCell_same _ _ _ h.a0.c0
    · exact World.cell?_setCell_same _ _ _ (by rw [World.cell?_setCell_other _ _ _ _ (by simp)]; exact h.a0.c1)
  · have h1 := h.all b (.tail _ hb)
    have h2 := hl b hb
    exact ⟨hg.cell h1.c0 (by have := h2.1; simp; omega), hg.cell h1.c1 (by have := h2.1; simp; omega), h1.row.apart hg (fun q off e hn => by have := h2.2 q off e hn; simp; omega)⟩
theorem row_nil (w : World) : Row w none 0 [] := ⟨rfl, .inl rfl⟩
def GivesI (w : World) (W n : Nat) (xs : List Int) (e : Ending) (w' : World) : Prop :=
  (∃ a cap, e = .returned (.tuple #[.agg #[.int .i64 W, .slice a n cap], .bool true]) ∧ OwnI w' w.heap.size a n cap xs) ∧ Below w.heap.size w w'
theorem Gives.ok {w w' : World} {W n : Nat} {xs : List Int} {e : Ending} (h : Gives w ⟨true, W, xs⟩ e w') (hl : xs.length = n) : GivesI w W n xs e w' := by
  subst hl; exact h
theorem other_ok {W n : Nat} {xs : List Int} (h : Im W n xs) (s : Option Addr) (cg : Nat) (w : World) (hR : Row w s n xs) :
    Calls Try.prog 39 #[.agg #[.int .i64 W, .slice s n cg]] w (GivesI w W n (othL xs W n)) := by
  have hc := other_impl W s n cg xs w hR (by have := h.l6; omega)
  rw [if_pos h.valid, Int.toNat_natCast] at hc
  exact hc.mono fun e w' hg => hg.ok (rows_len _ _)
def putL (xs : List Int) (i j : Nat) (set : Bool) : List Int := xs.set i (putI (xs.getD i 0) j set)
end Go.Proofs.Ytnfkafaolelkbaa

namespace Go.Proofs.Ytnfkafaolelkbaa
set_option maxRecDepth 100000
open Go.RowKit

theorem putr_nat : ∀ W, W < 7 → ∀ j, j < W → ∀ n, n < 64 → ((n : Nat) : Int) ≤ pw W - 1 → 0 ≤ putI ((n : Nat) : Int) j false ∧ putI ((n : Nat) : Int) j false ≤ pw W - 1 := by decide +kernel
theorem putb_yes : ∀ j, j < 6 → ∀ l, l < 6 → ∀ n, n < 64 → bitI (putI ((n : Nat) : Int) j true) l = if l = j then 1 else bitI ((n : Nat) : Int) l := by decide +kernel
theorem putb_not : ∀ j, j < 6 → ∀ l, l < 6 → ∀ n, n < 64 → bitI (putI ((n : Nat) : Int) j false) l = if l = j then 0 else bitI ((n : Nat) : Int) l := by decide +kernel
theorem putb_nat (W : Nat) (hW : W < 7) (j : Nat) (hj : j < W) (n : Nat) (hn : n < 64) (hb : ((n : Nat) : Int) ≤ pw W - 1) (set : Bool) : 0 ≤ putI ((n : Nat) : Int) j set ∧ putI ((n : Nat) : Int) j set ≤ pw W - 1 ∧ ∀ l, l < W → bitI (putI ((n : Nat) : Int) j set) l = if l = j then (if set = true then 1 else 0) else bitI ((n : Nat) : Int) l := by
  have h := putin_nat W hW j hj n hn hb
  have h' := putr_nat W hW j hj n hn hb
  cases set
  · exact ⟨h'.1, h'.2, fun l hl => putb_not j (by omega) l (by omega) n hn⟩
  · exact ⟨h.1, h.2, fun l hl => putb_yes j (by omega) l (by omega) n hn⟩
theorem put_get {xs : List Int} {i j k n : Nat} {set : Bool} (hl : xs.length = n) (hk : k < n) : (putL xs i j set).getD k 0 = if k = i then putI (xs.getD i 0) j set else xs.getD k 0 := by
  unfold putL
  by_cases e : k = i
  · subst e; rw [if_pos rfl, List.getD_eq_getElem?_getD, List.getElem?_set_self (by omega)]; rfl
  · rw [if_neg e, List.getD_eq_getElem?_getD, List.getElem?_set_ne (by omega), ← List.getD_eq_getElem?_getD]
theorem Im.put {W n : Nat} {xs : List Int} (h : Im W n xs) {i j : Nat} (hi : i < n) (hj : j < W) (set : Bool) : Im W n (putL xs i j set) :=
  ⟨h.w1, h.w6, h.l1, h.l6, by unfold putL; rw [List.length_set]; exact h.hl, fun k hk => by
    rw [put_get h.hl hk]
    obtain ⟨m, hm, hm64⟩ := h.nat hi
    have hb := (h.row i hi).2
    have hp := putb_nat W (by have := h.w6; omega) j hj m hm64 (by rw [← hm]; exact hb) set
    rw [hm]
    split
    · exact ⟨hp.1, hp.2.1⟩
    · exact h.row k hk⟩
theorem Im.put_bit {W n : Nat} {xs : List Int} (h : Im W n xs) {i j k l : Nat} (hi : i < n) (hj : j < W) (hk : k < n) (hl : l < W) (set : Bool) : bitI ((putL xs i j set).getD k 0) l = if k = i ∧ l = j then (if set = true then 1 else 0) else bitI (xs.getD k 0) l := by
  rw [put_get h.hl hk]
  obtain ⟨m, hm, hm64⟩ := h.nat hi
  have hb := (h.row i hi).2
  have hp := (putb_nat W (by have := h.w6; omega) j hj m hm64 (by rw [← hm]; exact hb) set).2.2 l hl
  by_cases e : k = i
  · subst e
    rw [if_pos rfl, hm, hp]
    by_cases e2 : l = j
    · simp only [e2, and_self]
    · simp only [e2, and_false]
  · rw [if_neg e, if_neg (fun h => e h.1)]
theorem Im.put_has {W n : Nat} {xs : List Int} (h : Im W n xs) {i j k l : Nat} (hi : i < n) (hj : j < W) (hk : k < n) (hl : l < W) (set : Bool) : hasB W (putL xs i j set) k l = if k = i ∧ l = j then set else hasB W xs k l := by
  rw [(h.put hi hj set).has hk hl, h.has hk hl, h.put_bit hi hj hk hl]
  split
  · cases set <;> rfl
  · rfl
theorem Im.put_put {W n : Nat} {xs : List Int} (h : Im W n xs) {i j : Nat} (hi : i < n) (hj : j < W) (s t : Bool) : putL (putL xs i j s) i j t = putL xs i j t :=
  ((h.put hi hj s).put hi hj t).ext (h.put hi hj t) fun k l hk hl => by
    rw [(h.put hi hj s).put_bit hi hj hk hl, h.put_bit hi hj hk hl, h.put_bit hi hj hk hl]
    split <;> rfl
theorem Im.put_self {W n : Nat} {xs : List Int} (h : Im W n xs) {i j : Nat} (hi : i < n) (hj : j < W) : putL xs i j (hasB W xs i j) = xs :=
  (h.put hi hj _).ext h fun k l hk hl => by
    rw [h.put_bit hi hj hk hl]
    split
    · rename_i e; obtain ⟨rfl, rfl⟩ := e
      rw [h.has hi hj]
      have := bit_01 (xs.getD k 0) l
      rcases (show bitI (xs.getD k 0) l = 0 ∨ bitI (xs.getD k 0) l = 1 by omega) with e | e <;> rw [e] <;> rfl
    · rfl
theorem Im.put_comm {W n : Nat} {xs : List Int} (h : Im W n xs) {i j k l : Nat} (hi : i < n) (hj : j < W) (hk : k < n) (hl : l < W) (hne : ¬ (k = i ∧ l = j)) (s t : Bool) : putL (putL xs i j s) k l t = putL (putL xs k l t) i j s :=
  ((h.put hi hj s).put hk hl t).ext ((h.put hk hl t).put hi hj s) fun a b ha hb => by
    rw [(h.put hi hj s).put_bit hk hl ha hb, h.put_bit hi hj ha hb, (h.put hk hl t).put_bit hi hj ha hb, h.put_bit hk hl ha hb]
    by_cases e1 : a = k ∧ b = l
    · have e2 : ¬ (a = i ∧ b = j) := by rintro ⟨r1, r2⟩; exact hne ⟨by omega, by omega⟩
      simp only [e1, and_self, if_true]
      obtain ⟨rfl, rfl⟩ := e1
      simp only [e2, if_false]
    · simp only [e1, if_false]

def GivesN (w : World) (e : Ending) (w' : World) : Prop :=
  (∃ a cap, e = .returned (.tuple #[.agg #[.int .i64 0, .slice a 0 cap], .bool false]) ∧ OwnI w' w.heap.size a 0 cap []) ∧ Below w.heap.size w w'
set_option maxHeartbeats 400000 in
theorem pow2_any (k : Nat) (w : World) (h : k ≤ 30) :
    Calls Try.prog 74 #[.int .i64 k] w fun e w' => e = .returned (.int .i64 (pw k)) ∧ w = w' := by
  go_enter Try.func74, Try.ntmps74
  go_wp2
  go_loop [3, 4] (fun o i => ∃ m : Nat, m ≤ k ∧ i = .int .i64 m ∧ o = .int .i64 (pw m)) (fun _ i => k - (intOf i).toNat)
  case atStart => exact ⟨0, Nat.zero_le _, rfl, rfl⟩
  case round =>
    obtain ⟨m, hm, rfl, rfl⟩ := hrel
    have h1 := pw_pos m
    have h2 : pw m ≤ 1073741824 := by rw [← pw_30]; exact pw_le m 30 (by omega)
    by_cases hlt : m < k
    · go_wp2
      go_round
      case rel => exact ⟨m + 1, by omega, by go_num, by rw [pw_succ]⟩
      case measure => simp [intOf]; omega
    · have : m = k := by omega
      subst this
      go_wp2
      go_ret
      exact ⟨rfl, rfl⟩
end Go.Proofs.Ytnfkafaolelkbaa

namespace Go.Proofs.Ytnfkafaolelkbaa
set_option maxRecDepth 100000
open Go.RowKit

theorem rows_snoc (f : Nat → Int) (k : Nat) : rowsL f (k + 1) = rowsL f k ++ [f k] := by simp [rowsL, List.range_succ]
theorem rows_nil (f : Nat → Int) : rowsL f 0 = [] := rfl
/-- The row sums of the first rows. -/
def rsL (xs : List Int) (W n : Nat) : List Int := rowsL (fun i => cntI (xs.getD i 0) W) n
/-- The sum of a column, as far as a row. -/
def csI (xs : List Int) (j n : Nat) : Int := sumI (fun i => bitI (xs.getD i 0) j) n
/-- The column sums. -/
def csL (xs : List Int) (n W : Nat) : List Int := rowsL (fun j => csI xs j n) W
def rsOut (W : Int) (xs : List Int) : List Int := if validB W xs = true then rsL xs W.toNat xs.length else []
def csOut (W : Int) (xs : List Int) : List Int := if validB W xs = true then csL xs xs.length W.toNat else []
theorem rs_len (xs : List Int) (W n : Nat) : (rsL xs W n).length = n := rows_len _ _
theorem cs_len (xs : List Int) (n W : Nat) : (csL xs n W).length = W := rows_len _ _
theorem csI_bd (xs : List Int) (j n : Nat) : 0 ≤ csI xs j n ∧ csI xs j n ≤ n := by
  induction n with
  | zero => simp [csI, sumI]
  | succ n ih => have := bit_01 (xs.getD n 0) j; unfold csI at *; simp only [sumI]; omega
theorem csI_succ (xs : List Int) (j n : Nat) : csI xs j (n + 1) = csI xs j n + bitI (xs.getD n 0) j := rfl
theorem OwnI.cap {w : World} {B : Nat} {a : Option Addr} {len cap : Nat} {xs : List Int} (h : OwnI w B a len cap xs) : len ≤ cap := by
  rcases h.2 with ⟨h1, h2⟩ | ⟨g, c, cur, h1, _, _, h4, _⟩
  · simp at h1; omega
  · simp only [Value.slice.injEq] at h1; omega

/-- What a function that gives a list leaves. -/
def GivesL (w : World) (L : List Int) (e : Ending) (w' : World) : Prop :=
  (∃ a cap, e = .returned (.slice a L.length cap) ∧ OwnI w' w.heap.size a L.length cap L) ∧ Below w.heap.size w w'

set_option maxHeartbeats 400000 in
theorem l2row_spec (W n : Nat) (a : Option Addr) (len cap : Nat) (xs : List Int) (w : World) (h : Row w a len xs) (hv : validB W xs = true) (hn : n < len) :
    Calls Try.prog 100 #[.agg #[.int .i64 W, .slice a len cap], .int .i64 n] w fun e w' => e = .returned (.int .i64 (cntI (xs.getD n 0) W)) ∧ Below w.heap.size w w' := by
  have hl := h.1
  have hW := validB_W hv
  have hL := validB_len hv
  have hr := validB_row hv (i := n) (by omega)
  obtain ⟨b, off, rfl, hck⟩ := row_at h hn
  generalize xs.getD n 0 = x at hck hr
  clear h hv
  have hb : b < w.heap.size := block_lt hck
  go_enter Try.func100, Try.ntmps100
  go_wp2_with fail
  go_loop [5, 6] (fun o i => ∃ j : Nat, j ≤ W ∧ i = .int .i64 j ∧ o = .int .i64 (cntI x j)) (fun _ i => W - (intOf i).toNat)
  case atStart => exact ⟨0, Nat.zero_le _, rfl, rfl⟩
  case round =>
    obtain ⟨j, hj, rfl, rfl⟩ := hrel
    have hcn := cnt_bd x j
    have hbi := bit_01 x j
    by_cases hlj : j < W
    · go_wp2_with fail
      refine (bit_any x j _ hr.1 (by omega) (by omega)).mono ?_
      rintro e w2 ⟨rfl, rfl⟩
      go_wp2_with fail
      exact ⟨⟨j + 1, by omega, by go_num, rfl⟩, by simp [intOf]; omega⟩
    · have : j = W := by omega
      subst this
      go_wp2_with fail
      go_ret
      exact ⟨rfl, (Below.refl _ _).alloc (Nat.le_refl _) _⟩

set_option maxHeartbeats 800000 in
theorem rsums_spec (W : Int) (a : Option Addr) (len cap : Nat) (xs : List Int) (w : World) (h : Row w a len xs) (hm : len ≤ 9223372036854775807) :
    Calls Try.prog 64 #[.agg #[.int .i64 W, .slice a len cap]] w (GivesL w (rsOut W xs)) := by
  have hl := h.1
  by_cases hv : validB W xs = true
  case neg =>
    rw [show rsOut W xs = [] from if_neg hv]
    have hv : validB W xs = false := by simpa using hv
    have H := (h.alloc (.cells #[.int .i64 W, .slice a len cap] 30)).alloc (.cells #[] 3)
    have hb0 : Below w.heap.size w ((w.alloc (.cells #[.int .i64 W, .slice a len cap] 30)).alloc (.cells #[] 3)) := ((Below.refl _ _).alloc (Nat.le_refl _) _).alloc (by simp) _
    have ho := own_empty (w.alloc (.cells #[.int .i64 W, .slice a len cap] 30)) w.heap.size (w.heap.size + 1) (by simp) (by omega)
    go_enter Try.func64, Try.ntmps64
    go_wp2_with fail
    go_loop [3, 4] (fun o i => i = .int .i64 0 ∧ o = .slice (some ⟨w.heap.size + 1, 0, none⟩) 0 0) (fun _ i => 0)
    case atStart => exact ⟨rfl, rfl⟩
    case round =>
      obtain ⟨rfl, rfl⟩ := hrel
      by_cases h0 : len = 0
      · subst h0
        go_wp2_with fail
        go_ret
        exact ⟨⟨_, _, rfl, ho⟩, hb0⟩
      · go_wp2_with fail
        refine (valid_spec _ _ _ _ xs _ H hm).mono ?_
        rintro e w1 ⟨rfl, hb⟩
        rw [hv]
        go_wp2_with fail
        go_ret
        exact ⟨⟨_, _, rfl, OwnI.bel ho hb⟩, hb0.trans (hb.mono hb0.size)⟩
  rw [show rsOut W xs = rsL xs W.toNat len by rw [← hl]; exact if_pos hv]
  have hW := validB_W hv
  have hL := validB_len hv
  obtain ⟨W, rfl⟩ := Int.eq_ofNat_of_zero_le (by omega : 0 ≤ W)
  rw [Int.toNat_natCast]
  have hbd : Hid (∀ i, 0 ≤ cntI (xs.getD i 0) W ∧ cntI (xs.getD i 0) W ≤ W) := fun i => cnt_bd (xs.getD i 0) W
  obtain ⟨i0, hi, hz0, hz1, hz2⟩ := info_parts infoInt
  obtain ⟨W0, hW0⟩ : ∃ W0, W0 = (w.alloc (.cells #[.int .i64 W, .slice a len cap] 30)).alloc (.cells #[] 3) := ⟨_, rfl⟩
  have hb0 : Below w.heap.size w W0 := by subst hW0; exact ((Below.refl _ _).alloc (Nat.le_refl _) _).alloc (by simp) _
  have ho : OwnI W0 (w.heap.size + 1) (some ⟨w.heap.size + 1, 0, none⟩) 0 0 [] := by subst hW0; exact own_empty (w.alloc (.cells #[.int .i64 W, .slice a len cap] 30)) (w.heap.size + 1) (w.heap.size + 1) (by simp) (by omega)
  have x0 : W0.cell? ⟨w.heap.size, 0, none⟩ = some (.int .i64 W) := by subst hW0; simp
  have x1 : W0.cell? ⟨w.heap.size, 1, none⟩ = some (.slice a len cap) := by subst hW0; simp
  have H : Row W0 a len xs := by subst hW0; exact (h.alloc _).alloc _
  have hs0 : W0.heap.size = w.heap.size + 2 := by subst hW0; simp
  have hS := Lib.hid hs0
  go_enter Try.func64, Try.ntmps64
  go_wp2_with fail
  rw [← hW0]
  have ho := Lib.hid ho
  have H := Lib.hid H
  have hv := Lib.hid hv
  have h := Lib.hid h
  clear hW0
  go_loopw [3, 4] (fun o i wr => ∃ (k : Nat) (s : Option Addr) (c : Nat), k ≤ len ∧ i = .int .i64 k ∧ o = .slice s k c ∧ Hid (OwnI wr (w.heap.size + 1) s k c (rsL xs W k)) ∧ Hid (Row wr a len xs) ∧ wr.cell? ⟨w.heap.size, 0, none⟩ = some (.int .i64 W) ∧ wr.cell? ⟨w.heap.size, 1, none⟩ = some (.slice a len cap) ∧ Hid (Below w.heap.size w wr)) (fun _ i _ => len - (intOf i).toNat)
  case atStart => exact ⟨0, _, 0, Nat.zero_le _, rfl, rfl, ho, H, x0, x1, hb0⟩
  case round =>
    obtain ⟨k, s, c, hk, rfl, rfl, hO, hR, y0, y1, hB⟩ := hrel
    clear x0 x1
    have hsz : w.heap.size < wr.heap.size := block_lt y0
    by_cases hlt : k < len
    · go_wp2_with fail
      refine (valid_spec _ _ _ _ xs _ hR.out hm).mono ?_
      rintro e w1 ⟨rfl, hb⟩
      rw [hv.out]
      have y0 := kept hb (by omega) y0
      have y1 := kept hb (by omega) y1
      have hO1 := Lib.hid (hO.out.bel hb)
      have hR1 := Lib.hid (hR.out.bel hb)
      have hB1 := Lib.hid (hB.out.trans (hb.mono (by omega)))
      have hsz1 : w.heap.size < w1.heap.size := block_lt y0
      clear hb hO hR hB
      go_wp2_with fail
      refine (l2row_spec W k a len cap xs _ hR1.out hv.out hlt).mono ?_
      rintro e w2 ⟨rfl, hb⟩
      have hb2 := hbd.out k
      have hsn : rsL xs W (k + 1) = rsL xs W k ++ [cntI (xs.getD k 0) W] := rows_snoc _ _
      generalize cntI (xs.getD k 0) W = x at hb2 hsn
      have hsn := Lib.hid hsn
      have y0 := kept hb (by omega) y0
      have y1 := kept hb (by omega) y1
      have hO2 := Lib.hid (hO1.out.bel hb)
      have hR2 := Lib.hid (hR1.out.bel hb)
      have hB2 := Lib.hid (hB1.out.trans (hb.mono (by omega)))
      have hsz2 : w.heap.size < w2.heap.size := block_lt y0
      clear hb hO1 hR1 hB1
      go_wp2_with (at_builtin; refine wpList_append_own _ rfl _ _ 23 rfl (w.heap.size + 1) 3 i0 (.int .i64 0) 1 8 Try.underlying23 hi hz0 hz1 hz2 rfl (by decide) _ k ((rsL xs W k).map (Value.int .i64)) rfl (World.ownsRow.alloc hO2.out _) ⟨w2.heap.size, 0, none⟩ 1 1 [.int .i64 x] rfl rfl ?c1 ?c2 ?c3 ?c4 ?c5 ?_)
      case c1 => intro j u hj; cases j with | zero => simp at hj; subst hj; simp [Addr.add] | succ j => simp at hj
      case c2 => intro u hu; simp at hu; subst hu; rfl
      case c3 => unfold maxLen; omega
      case c4 => omega
      case c5 => simp; omega
      intro v' w3 hown hgr _
      obtain ⟨a', cap', rfl, ho3⟩ := own_of (xs := rsL xs W (k + 1)) (by rw [hsn.out, List.map_append]; exact hown)
      have hfar : ∀ g, (Value.slice s k c).ownBlock = some g → w.heap.size + 1 ≤ g := fun g hg => by
        rcases hO2.out.cases with ⟨rfl, _, _⟩ | ⟨g', rfl, h2, _⟩
        · cases hg
        · simp [Value.ownBlock] at hg; omega
      have hb3 : Below (w.heap.size + 1) w2 w3 := ((Below.refl _ _).alloc (by omega) _).grown hgr (by simp; omega) hfar
      have y0 := kept hb3 (by simp) y0
      have y1 := kept hb3 (by simp) y1
      have hB3 := Lib.hid (hB2.out.trans (hb3.mono (by omega)))
      have hR3 : Hid (Row w3 a len xs) := h.out.bel hB3.out
      have ho3 := Lib.hid ho3
      clear hown hgr hfar hb3 hO2 hR2 hB2
      go_wp2_with fail
      exact ⟨⟨k + 1, a', cap', by omega, by go_num, rfl, ho3, hR3, y0, y1, hB3⟩, by simp [intOf]; omega⟩
    · have : k = len := by omega
      subst this
      go_wp2_with fail
      go_ret
      exact ⟨⟨s, c, by rw [rs_len]; rfl, by rw [rs_len]; exact hO.out.mono (by omega)⟩, hB.out⟩
end Go.Proofs.Ytnfkafaolelkbaa

namespace Go.Proofs.Ytnfkafaolelkbaa
set_option maxRecDepth 100000
open Go.RowKit

set_option maxHeartbeats 800000 in
theorem csums_spec (W : Int) (a : Option Addr) (len cap : Nat) (xs : List Int) (w : World) (h : Row w a len xs) (hm : len ≤ 9223372036854775807) :
    Calls Try.prog 65 #[.agg #[.int .i64 W, .slice a len cap]] w (GivesL w (csOut W xs)) := by
  have hl := h.1
  have H := (h.alloc (.cells #[.int .i64 W, .slice a len cap] 30)).alloc (.cells #[] 3)
  obtain ⟨W0, hW0⟩ : ∃ W0, W0 = (w.alloc (.cells #[.int .i64 W, .slice a len cap] 30)).alloc (.cells #[] 3) := ⟨_, rfl⟩
  have hb0 : Below w.heap.size w W0 := by subst hW0; exact ((Below.refl _ _).alloc (Nat.le_refl _) _).alloc (by simp) _
  have ho : OwnI W0 (w.heap.size + 1) (some ⟨w.heap.size + 1, 0, none⟩) 0 0 [] := by subst hW0; exact own_empty (w.alloc (.cells #[.int .i64 W, .slice a len cap] 30)) (w.heap.size + 1) (w.heap.size + 1) (by simp) (by omega)
  have x0 : W0.cell? ⟨w.heap.size, 0, none⟩ = some (.int .i64 W) := by subst hW0; simp
  have x1 : W0.cell? ⟨w.heap.size, 1, none⟩ = some (.slice a len cap) := by subst hW0; simp
  have hs0 : W0.heap.size = w.heap.size + 2 := by subst hW0; simp
  by_cases hv : validB W xs = true
  case neg =>
    rw [show csOut W xs = [] from if_neg hv]
    have hv : validB W xs = false := by simpa using hv
    go_enter Try.func65, Try.ntmps65
    go_wp2_with fail
    rw [← hW0] at H ⊢
    refine (valid_spec _ _ _ _ xs _ H hm).mono ?_
    rintro e w1 ⟨rfl, hb⟩
    rw [hv]
    go_wp2_with fail
    go_ret
    exact ⟨⟨_, _, rfl, (OwnI.bel ho hb).mono (by omega)⟩, hb0.trans (hb.mono hb0.size)⟩
  rw [show csOut W xs = csL xs len W.toNat by rw [← hl]; exact if_pos hv]
  have hW := validB_W hv
  have hL := validB_len hv
  obtain ⟨W, rfl⟩ := Int.eq_ofNat_of_zero_le (by omega : 0 ≤ W)
  rw [Int.toNat_natCast]
  have hrow : Hid (∀ i, i < len → 0 ≤ xs.getD i 0 ∧ xs.getD i 0 ≤ pw W - 1 ∧ xs.getD i 0 ≤ 63) := fun i hi => validB_row hv (by omega)
  have hbd : Hid (∀ j n, 0 ≤ csI xs j n ∧ csI xs j n ≤ n) := fun j n => csI_bd xs j n
  obtain ⟨i0, hi, hz0, hz1, hz2⟩ := info_parts infoInt
  go_enter Try.func65, Try.ntmps65
  go_wp2_with fail
  rw [← hW0] at H ⊢
  refine (valid_spec _ _ _ _ xs _ H hm).mono ?_
  rintro e w1 ⟨rfl, hb⟩
  rw [hv]
  have x0 := kept hb (by simp; omega) x0
  have x1 := kept hb (by simp; omega) x1
  have ho := Lib.hid (ho.bel hb)
  have hB := Lib.hid (hb0.trans (hb.mono hb0.size))
  have h := Lib.hid h
  clear hb H hW0 hb0 hv
  go_wp2_with fail
  go_loopw [3, 4] (fun o i wr => ∃ (k : Nat) (s : Option Addr) (c : Nat), k ≤ W ∧ i = .int .i64 k ∧ o = .slice s k c ∧ Hid (OwnI wr (w.heap.size + 1) s k c (csL xs len k)) ∧ wr.cell? ⟨w.heap.size, 0, none⟩ = some (.int .i64 W) ∧ wr.cell? ⟨w.heap.size, 1, none⟩ = some (.slice a len cap) ∧ Hid (Below w.heap.size w wr)) (fun _ i _ => W - (intOf i).toNat)
  case atStart => exact ⟨0, _, 0, Nat.zero_le _, rfl, rfl, ho, x0, x1, hB⟩
  case round =>
    obtain ⟨k, s, c, hk, rfl, rfl, hO, y0, y1, hB⟩ := hrel
    obtain ⟨wo, rfl⟩ : ∃ wo : World, wo = wr := ⟨_, rfl⟩
    clear x0 x1
    have hsz : w.heap.size < wo.heap.size := block_lt y0
    by_cases hlt : k < W
    · go_wp2_with fail
      go_loop [5, 6] (fun o i => ∃ j : Nat, j ≤ len ∧ i = .int .i64 j ∧ o = .int .i64 (csI xs k j)) (fun _ i => len - (intOf i).toNat)
      case atStart => exact ⟨0, Nat.zero_le _, rfl, rfl⟩
      case round =>
        obtain ⟨j, hj, rfl, rfl⟩ := hrel
        have hcn := hbd.out k j
        by_cases hlj : j < len
        · obtain ⟨b, off, rfl, hck⟩ := row_at (h.out.bel hB.out) hlj
          have hr := hrow.out j hlj
          have hsn := csI_succ xs k j
          generalize xs.getD j 0 = x at hck hr hsn
          have hbi := bit_01 x k
          have hsn := Lib.hid hsn
          go_wp2_with fail
          refine (bit_any x k _ hr.1 (by omega) (by omega)).mono ?_
          rintro e w2 ⟨rfl, rfl⟩
          go_wp2_with fail
          exact ⟨⟨j + 1, by omega, by go_num, by rw [hsn.out]⟩, by simp [intOf]; omega⟩
        · have : j = len := by omega
          subst this
          have hsn : csL xs j (k + 1) = csL xs j k ++ [csI xs k j] := rows_snoc _ _
          generalize csI xs k j = x at hcn hsn
          have hsn := Lib.hid hsn
          go_wp2_with (at_builtin; refine wpList_append_own _ rfl _ _ 23 rfl (w.heap.size + 1) 3 i0 (.int .i64 0) 1 8 Try.underlying23 hi hz0 hz1 hz2 rfl (by decide) _ k ((csL xs j k).map (Value.int .i64)) rfl (World.ownsRow.alloc hO.out _) ⟨wo.heap.size, 0, none⟩ 1 1 [.int .i64 x] rfl rfl ?c1 ?c2 ?c3 ?c4 ?c5 ?_)
          case c2 => rfl
          case c3 => unfold maxLen; omega
          case c4 => omega
          case c5 => omega
          intro v' w3 hown hgr _
          obtain ⟨a', cap', rfl, ho3⟩ := own_of (xs := csL xs j (k + 1)) (by rw [hsn.out, List.map_append]; exact hown)
          have hfar : ∀ g, (Value.slice s k c).ownBlock = some g → w.heap.size + 1 ≤ g := fun g hg => by
            rcases hO.out.cases with ⟨rfl, _, _⟩ | ⟨g', rfl, h2, _⟩
            · cases hg
            · simp [Value.ownBlock] at hg; omega
          have hb3 : Below (w.heap.size + 1) wo w3 := ((Below.refl _ _).alloc (by omega) _).grown hgr (by simp; omega) hfar
          have y0 := kept hb3 (by simp) y0
          have y1 := kept hb3 (by simp) y1
          have hB3 := Lib.hid (hB.out.trans (hb3.mono (by omega)))
          have ho3 := Lib.hid ho3
          clear hown hgr hfar hb3 hO hB
          go_wp2_with fail
          exact ⟨⟨k + 1, a', cap', by omega, by go_num, rfl, ho3, y0, y1, hB3⟩, by simp [intOf]; omega⟩
    · have : k = W := by omega
      subst this
      go_wp2_with fail
      go_ret
      exact ⟨⟨s, c, by rw [cs_len]; rfl, by rw [cs_len]; exact hO.out.mono (by omega)⟩, hB.out⟩

/-- What the sums are while they are made. -/
def partL (F : Nat → Nat → Int) (n m k j : Nat) : List Int := rowsL (fun i => if i < k then sumI (F i) m else if i = k then sumI (F k) j else 0) n
theorem part_len (F : Nat → Nat → Int) (n m k j : Nat) : (partL F n m k j).length = n := rows_len _ _
theorem part_zero (F : Nat → Nat → Int) (n m : Nat) : partL F n m 0 0 = List.replicate n 0 := by
  rw [← rows_zero]; exact rows_ext fun _ _ => by rw [if_neg (by omega)]; split <;> simp_all [sumI]
theorem part_get (F : Nat → Nat → Int) {n m k j : Nat} (hk : k < n) : (partL F n m k j).getD k 0 = sumI (F k) j := by
  rw [show (partL F n m k j).getD k 0 = _ from rows_get _ hk, if_neg (by omega), if_pos rfl]
theorem part_set (F : Nat → Nat → Int) {n m k j : Nat} (hk : k < n) : (partL F n m k j).set k (sumI (F k) (j + 1)) = partL F n m k (j + 1) :=
  rows_set _ _ hk (by simp) fun _ _ hne => by
    show (if _ < k then _ else if _ = k then _ else (0 : Int)) = (if _ < k then _ else if _ = k then _ else (0 : Int))
    rw [if_neg hne, if_neg hne]
theorem part_next (F : Nat → Nat → Int) (n m k : Nat) : partL F n m k m = partL F n m (k + 1) 0 := rows_ext fun i _ => by
  by_cases h : i < k
  · rw [if_pos h, if_pos (by omega)]
  · rw [if_neg h]
    by_cases e : i = k
    · rw [if_pos e, if_pos (by omega), e]
    · rw [if_neg e, if_neg (by omega)]; split <;> rfl
theorem part_full (F : Nat → Nat → Int) (n m j : Nat) : partL F n m n j = rowsL (fun i => sumI (F i) m) n := rows_ext fun _ hi => if_pos hi
theorem sum_bd {f : Nat → Int} (h : ∀ i, 0 ≤ f i ∧ f i ≤ 1) (k : Nat) : 0 ≤ sumI f k ∧ sumI f k ≤ k := by
  induction k with
  | zero => simp [sumI]
  | succ k ih => have := h k; simp only [sumI]; omega

set_option maxHeartbeats 1000000 in
theorem sumsOf_any (fk : Nat) (hE : Go.Proofs.Enters Try.prog fk) (p : Value) (n m : Nat) (F : Nat → Nat → Int) (w : World) (hF : ∀ i j, 0 ≤ F i j ∧ F i j ≤ 1) (hn : n ≤ 6) (hm : m ≤ 6)
    (hc : ∀ wx, Below w.heap.size w wx → ∀ i j : Nat, i < n → j < m → Calls Try.prog fk #[.int .i64 i, .int .i64 j, p] wx fun e w' => e = .returned (.int .i64 (F i j)) ∧ wx = w') :
    Calls Try.prog 68 #[.int .i64 n, .int .i64 m, .func (.func fk) #[] #[p]] w (GivesL w (rowsL (fun i => sumI (F i) m) n)) := by
  obtain ⟨i0, hi, hz0, hz1, hz2⟩ := info_parts infoInt
  have hsb : Hid (∀ i j, 0 ≤ sumI (F i) j ∧ sumI (F i) j ≤ j) := fun i j => sum_bd (hF i) j
  have hF := Lib.hid hF
  have hc := Lib.hid hc
  go_enter Try.func68, Try.ntmps68
  go_wp2_with ((refine wpList_make_full w rfl _ _ 23 rfl w.heap.size 3 i0 (.int .i64 0) 1 Try.underlying23 hi hz0 hz1 .i64 .i64 n n n rfl rfl rfl rfl ?_ ?_ (Nat.le_refl _) ?_))
  all_goals first | (rw [hz2]; omega) | (unfold maxLen; omega) | skip
  intro w1 ho hg
  have ho0 : OwnI w1 w.heap.size (some ⟨w.heap.size, 0, none⟩) n n (partL F n m 0 0) := by
    rw [part_zero]; unfold OwnI; simpa [toList_madeCells_one, List.map_replicate] using ho
  have hb1 : Below w.heap.size w w1 := (Below.refl _ _).grown hg (Nat.le_refl _) (fun k hk => by cases hk)
  have ho0 := Lib.hid ho0
  have hb1 := Lib.hid hb1
  clear ho hg
  go_wp2_with fail
  generalize hgw : w.heap.size = g at *
  go_loopw [14] (fun i wr => ∃ k : Nat, k ≤ n ∧ i = .int .i64 k ∧ Hid (Below g w wr) ∧ Hid (OwnI wr g (some ⟨g, 0, none⟩) n n (partL F n m k 0))) (fun i _ => n - (intOf i).toNat)
  case atStart => exact ⟨0, Nat.zero_le _, rfl, hb1, ho0⟩
  case round =>
    obtain ⟨k, hk, rfl, hB, hO⟩ := hrel
    obtain ⟨wo, rfl⟩ : ∃ wo : World, wo = wr := ⟨_, rfl⟩
    clear hb1 ho0
    by_cases hlt : k < n
    · go_wp2_with fail
      go_loopw [18] (fun i wr => ∃ j : Nat, j ≤ m ∧ i = .int .i64 j ∧ Hid (Below g w wr) ∧ Hid (OwnI wr g (some ⟨g, 0, none⟩) n n (partL F n m k j))) (fun i _ => m - (intOf i).toNat)
      case atStart => exact ⟨0, Nat.zero_le _, rfl, hB, hO⟩
      case round =>
        obtain ⟨j, hj, rfl, hB2, hO2⟩ := hrel
        clear hB hO
        by_cases hlj : j < m
        · have hcj := hsb.out k j
          have hF1 := hF.out k j
          have hcell := own_cell (hO2.out.bel ((Below.refl _ _).drew)) hlt
          rw [part_get F hlt] at hcell
          have hfz := (hO2.out.bel ((Below.refl _ _).drew)).frozen k
          have hst := (hO2.out.bel ((Below.refl _ _).drew)).set k (sumI (F k) j + F k j)
          rw [show sumI (F k) j + F k j = sumI (F k) (j + 1) from rfl, part_set F hlt] at hst
          have hsn : sumI (F k) (j + 1) = sumI (F k) j + F k j := rfl
          rw [hsn] at hst
          have hBd := hB2.out.drew
          obtain ⟨W2, hW2⟩ : ∃ W2, wr.drew = W2 := ⟨_, rfl⟩
          rw [hW2] at hcell hfz hst hBd
          have hbs := hBd.setCell (show g ≤ (⟨g, k, none⟩ : Addr).block by simp) (.int .i64 (sumI (F k) j + F k j))
          have hcl := hc.out W2 hBd k j hlt hlj
          generalize sumI (F k) j = x at hcj hcell hst hbs
          generalize F k j = y at hF1 hst hbs hcl
          have hst := Lib.hid hst
          have hbs := Lib.hid hbs
          have hi64 : IntKind.i64.wrap (x + y) = x + y := IntWalk.i64_in _ ⟨by omega, by omega⟩
          clear hBd hO2 hB2
          go_wp2_with fail
          refine region_tail 9 (by kernel_rfl) (by kernel_rfl) W2 hW2 ?_
          simp only [List.take_succ_cons, List.take_zero, List.drop_succ_cons, List.drop_zero]
          clear hW2
          iterate 7 still_step
          refine wpStill_step (fun K hK => ?_)
          go_simp
          rw [hE]
          go_simp
          refine ⟨_, st hcl, hK _ ?_⟩
          clear hK K
          still_step
          refine wpStill_nil ?_
          go_wp2_with fail
          exact ⟨⟨j + 1, by omega, by go_num, hbs, hst⟩, by simp [intOf]; omega⟩
        · have : j = m := by omega
          subst this
          rw [part_next] at hO2
          go_wp2_with fail
          exact ⟨⟨k + 1, by omega, by go_num, hB2, hO2⟩, by simp [intOf]; omega⟩
    · have : k = n := by omega
      subst this
      rw [part_full] at hO
      subst hgw
      go_wp2_with fail
      go_ret
      exact ⟨⟨_, _, by rw [rows_len]; rfl, by rw [rows_len]; exact hO.out⟩, hB.out⟩

theorem sumsOf_eq (fk : Nat) (hE : Go.Proofs.Enters Try.prog fk) (p : Value) (n m : Nat) (F : Nat → Nat → Int) (L : List Int) (hL : rowsL (fun i => sumI (F i) m) n = L) (w : World) (hF : ∀ i j, 0 ≤ F i j ∧ F i j ≤ 1) (hn : n ≤ 6) (hm : m ≤ 6)
    (hc : ∀ wx, Below w.heap.size w wx → ∀ i j : Nat, i < n → j < m → Calls Try.prog fk #[.int .i64 i, .int .i64 j, p] wx fun e w' => e = .returned (.int .i64 (F i j)) ∧ wx = w') :
    Calls Try.prog 68 #[.int .i64 n, .int .i64 m, .func (.func fk) #[] #[p]] w (GivesL w L) := by
  subst hL; exact sumsOf_any fk hE p n m F w hF hn hm hc

theorem rowcell (B : Nat) (a : Option Addr) (len cap : Nat) (xs : List Int) (w : World) (x1 : w.cell? ⟨B, 1, none⟩ = some (.slice a len cap)) (h : Row w a len xs) (r c : Nat) (hr : r < len) (h6 : c ≤ 6) (hx : 0 ≤ xs.getD r 0 ∧ xs.getD r 0 ≤ 63) :
    Calls Try.prog 69 #[.int .i64 r, .int .i64 c, .pointer (some ⟨B, 0, none⟩)] w fun e w' => e = .returned (.int .i64 (bitI (xs.getD r 0) c)) ∧ w = w' := by
  obtain ⟨b, off, rfl, hck⟩ := row_at h hr
  generalize xs.getD r 0 = x at hck hx
  have E := shr_bit (j := c) hx.1 hx.2
  clear h
  go_enter Try.func69, Try.ntmps69
  go_wp2_with fail
  go_ret
  exact ⟨by rw [← E]; rfl, rfl⟩

theorem colcell (B : Nat) (a : Option Addr) (len cap : Nat) (xs : List Int) (w : World) (x1 : w.cell? ⟨B, 1, none⟩ = some (.slice a len cap)) (h : Row w a len xs) (r c : Nat) (hr : r < len) (h6 : c ≤ 6) (hx : 0 ≤ xs.getD r 0 ∧ xs.getD r 0 ≤ 63) :
    Calls Try.prog 70 #[.int .i64 c, .int .i64 r, .pointer (some ⟨B, 0, none⟩)] w fun e w' => e = .returned (.int .i64 (bitI (xs.getD r 0) c)) ∧ w = w' := by
  obtain ⟨b, off, rfl, hck⟩ := row_at h hr
  generalize xs.getD r 0 = x at hck hx
  have E := shr_bit (j := c) hx.1 hx.2
  clear h
  go_enter Try.func70, Try.ntmps70
  go_wp2_with fail
  go_ret
  exact ⟨by rw [← E]; rfl, rfl⟩

set_option maxHeartbeats 800000 in
theorem rsums_impl (W : Int) (a : Option Addr) (len cap : Nat) (xs : List Int) (w : World) (h : Row w a len xs) (hm : len ≤ 9223372036854775807) :
    Calls Try.prog 27 #[.agg #[.int .i64 W, .slice a len cap]] w (GivesL w (rsOut W xs)) := by
  have hl := h.1
  have H := h.alloc (.cells #[.int .i64 W, .slice a len cap] 30)
  have hb0 : Below w.heap.size w (w.alloc (.cells #[.int .i64 W, .slice a len cap] 30)) := (Below.refl _ _).alloc (Nat.le_refl _) _
  by_cases hv : validB W xs = true
  case neg =>
    rw [show rsOut W xs = [] from if_neg hv]
    have hv : validB W xs = false := by simpa using hv
    go_enter Try.func27, Try.ntmps27
    go_wp2_with fail
    refine (valid_impl _ _ _ _ xs _ H hm).mono ?_
    rintro e w1 ⟨rfl, hb⟩
    rw [hv]
    have bb := hb0.trans (hb.mono hb0.size)
    go_wp2_with fail
    go_ret
    exact ⟨⟨_, _, rfl, own_empty w1 w.heap.size w1.heap.size rfl bb.size⟩, bb.alloc bb.size _⟩
  rw [show rsOut W xs = rsL xs W.toNat len by rw [← hl]; exact if_pos hv]
  have hW := validB_W hv
  have hL := validB_len hv
  obtain ⟨W, rfl⟩ := Int.eq_ofNat_of_zero_le (by omega : 0 ≤ W)
  rw [Int.toNat_natCast]
  have hrow : Hid (∀ i, i < len → 0 ≤ xs.getD i 0 ∧ xs.getD i 0 ≤ pw W - 1 ∧ xs.getD i 0 ≤ 63) := fun i hi => validB_row hv (by omega)
  have x0 : (w.alloc (.cells #[.int .i64 W, .slice a len cap] 30)).cell? ⟨w.heap.size, 0, none⟩ = some (.int .i64 W) := by simp
  have x1 : (w.alloc (.cells #[.int .i64 W, .slice a len cap] 30)).cell? ⟨w.heap.size, 1, none⟩ = some (.slice a len cap) := by simp
  go_enter Try.func27, Try.ntmps27
  go_wp2_with fail
  refine (valid_impl _ _ _ _ xs _ H hm).mono ?_
  rintro e w1 ⟨rfl, hb⟩
  rw [hv]
  have bb := hb0.trans (hb.mono hb0.size)
  have x0 := kept hb (by simp) x0
  have x1 := kept hb (by simp) x1
  have hsz : w.heap.size < w1.heap.size := block_lt x0
  have H1 := Lib.hid (H.bel hb)
  have bb := Lib.hid bb
  clear hb hb0 H h
  go_wp2_with fail
  refine (sumsOf_eq 69 (enters_of Try.func69 (by kernel_rfl) rfl) (.pointer (some ⟨w.heap.size, 0, none⟩)) len W (fun i j => bitI (xs.getD i 0) j) (rsL xs W len) (rows_ext fun i _ => (cnt_sum _ _).symm) _ (fun i j => bit_01 _ _) (by omega) (by omega) fun wx hx i j hi hj => rowcell w.heap.size a len cap xs wx (kept hx (show w.heap.size < _ by simpa using hsz) (by simpa using x1)) ((by simpa using H1.out : Row _ a len xs).bel hx) i j hi (by omega) (And.intro (hrow.out _ (by assumption)).1 (hrow.out _ (by assumption)).2.2)).mono ?_
  rintro e w2 ⟨⟨a2, c2, rfl, ho⟩, hb2⟩
  have hw := Lib.hid (And.intro ho hb2)
  clear ho hb2
  go_wp2_with fail
  go_ret
  have hw := hw.out
  refine ⟨⟨a2, c2, rfl, ?_⟩, bb.out.trans (hw.2.mono (by have := bb.out.size; simpa using this))⟩
  exact hw.1.mono (by have := bb.out.size; simpa using this)

set_option maxHeartbeats 800000 in
theorem csums_impl (W : Int) (a : Option Addr) (len cap : Nat) (xs : List Int) (w : World) (h : Row w a len xs) (hm : len ≤ 9223372036854775807) :
    Calls Try.prog 28 #[.agg #[.int .i64 W, .slice a len cap]] w (GivesL w (csOut W xs)) := by
  have hl := h.1
  have H := h.alloc (.cells #[.int .i64 W, .slice a len cap] 30)
  have hb0 : Below w.heap.size w (w.alloc (.cells #[.int .i64 W, .slice a len cap] 30)) := (Below.refl _ _).alloc (Nat.le_refl _) _
  by_cases hv : validB W xs = true
  case neg =>
    rw [show csOut W xs = [] from if_neg hv]
    have hv : validB W xs = false := by simpa using hv
    go_enter Try.func28, Try.ntmps28
    go_wp2_with fail
    refine (valid_impl _ _ _ _ xs _ H hm).mono ?_
    rintro e w1 ⟨rfl, hb⟩
    rw [hv]
    have bb := hb0.trans (hb.mono hb0.size)
    go_wp2_with fail
    go_ret
    exact ⟨⟨_, _, rfl, own_empty w1 w.heap.size w1.heap.size rfl bb.size⟩, bb.alloc bb.size _⟩
  rw [show csOut W xs = csL xs len W.toNat by rw [← hl]; exact if_pos hv]
  have hW := validB_W hv
  have hL := validB_len hv
  obtain ⟨W, rfl⟩ := Int.eq_ofNat_of_zero_le (by omega : 0 ≤ W)
  rw [Int.toNat_natCast]
  have hrow : Hid (∀ i, i < len → 0 ≤ xs.getD i 0 ∧ xs.getD i 0 ≤ pw W - 1 ∧ xs.getD i 0 ≤ 63) := fun i hi => validB_row hv (by omega)
  have x0 : (w.alloc (.cells #[.int .i64 W, .slice a len cap] 30)).cell? ⟨w.heap.size, 0, none⟩ = some (.int .i64 W) := by simp
  have x1 : (w.alloc (.cells #[.int .i64 W, .slice a len cap] 30)).cell? ⟨w.heap.size, 1, none⟩ = some (.slice a len cap) := by simp
  go_enter Try.func28, Try.ntmps28
  go_wp2_with fail
  refine (valid_impl _ _ _ _ xs _ H hm).mono ?_
  rintro e w1 ⟨rfl, hb⟩
  rw [hv]
  have bb := hb0.trans (hb.mono hb0.size)
  have x0 := kept hb (by simp) x0
  have x1 := kept hb (by simp) x1
  have hsz : w.heap.size < w1.heap.size := block_lt x0
  have H1 := Lib.hid (H.bel hb)
  have bb := Lib.hid bb
  clear hb hb0 H h
  go_wp2_with fail
  refine (sumsOf_eq 70 (enters_of Try.func70 (by kernel_rfl) rfl) (.pointer (some ⟨w.heap.size, 0, none⟩)) W len (fun i j => bitI (xs.getD j 0) i) (csL xs len W) rfl _ (fun i j => bit_01 _ _) (by omega) (by omega) fun wx hx i j hi hj => colcell w.heap.size a len cap xs wx (kept hx (show w.heap.size < _ by simpa using hsz) (by simpa using x1)) ((by simpa using H1.out : Row _ a len xs).bel hx) j i hj (by omega) (And.intro (hrow.out _ (by assumption)).1 (hrow.out _ (by assumption)).2.2)).mono ?_
  rintro e w2 ⟨⟨a2, c2, rfl, ho⟩, hb2⟩
  have hw := Lib.hid (And.intro ho hb2)
  clear ho hb2
  go_wp2_with fail
  go_ret
  have hw := hw.out
  refine ⟨⟨a2, c2, rfl, ?_⟩, bb.out.trans (hw.2.mono (by have := bb.out.size; simpa using this))⟩
  exact hw.1.mono (by have := bb.out.size; simpa using this)
end Go.Proofs.Ytnfkafaolelkbaa

namespace Go.Proofs.Ytnfkafaolelkbaa
set_option maxRecDepth 100000
open Go.RowKit

theorem lists_ext {xs ys : List Int} {n : Nat} (hx : xs.length = n) (hy : ys.length = n) (h : ∀ j, j < n → xs.getD j 0 = ys.getD j 0) : xs = ys := by
  apply List.ext_getElem (by omega)
  intro i h1 h2
  have := h i (by omega)
  rw [getD_elem h1, getD_elem h2] at this
  exact this
theorem lists_ne {xs ys : List Int} {j : Nat} (h : xs.getD j 0 ≠ ys.getD j 0) : decide (xs = ys) = false := by
  rw [decide_eq_false_iff_not]; intro e; subst e; exact h rfl
theorem lists_len {xs ys : List Int} (h : xs.length ≠ ys.length) : decide (xs = ys) = false := by
  rw [decide_eq_false_iff_not]; intro e; subst e; exact h rfl

set_option maxHeartbeats 400000 in
theorem same_laws (a a' : Option Addr) (n m cap cap' : Nat) (xs ys : List Int) (w : World) (h : Row w a n xs) (h' : Row w a' m ys) (hm : n ≤ 9223372036854775807) (hm' : m ≤ 9223372036854775807) :
    Calls Try.prog 73 #[.slice a n cap, .slice a' m cap'] w fun e w' => e = .returned (.bool (decide (xs = ys))) ∧ Below w.heap.size w w' := by
  by_cases hnm : n = m
  case neg =>
    rw [lists_len (by rw [h.1, h'.1]; exact hnm)]
    have hb : ((n : Int) != (m : Int)) = true := by rw [bne_iff_ne]; omega
    clear h h'
    go_enter Try.func73, Try.ntmps73
    go_wp2
    go_ret
    exact ⟨rfl, Below.refl _ _⟩
  subst hnm
  have hR := Lib.hid h
  have hR' := Lib.hid h'
  clear h h'
  go_enter Try.func73, Try.ntmps73
  go_wp2
  go_loopw [5] (fun i wr => ∃ k : Nat, k ≤ n ∧ i = .int .i64 k ∧ Hid (∀ j, j < k → xs.getD j 0 = ys.getD j 0) ∧ Below w.heap.size w wr) (fun i _ => n - (intOf i).toNat)
  case atStart => exact ⟨0, Nat.zero_le _, rfl, fun j hj => absurd hj (Nat.not_lt_zero _), Below.refl _ _⟩
  case round =>
    obtain ⟨k, hk, rfl, he, hbel⟩ := hrel
    by_cases hlt : k < n
    · obtain ⟨b, off, rfl, hc⟩ := row_at hR.out hlt
      obtain ⟨b', off', rfl, hc'⟩ := row_at hR'.out hlt
      have hc := kept hbel (block_lt hc) hc
      have hc' := kept hbel (block_lt hc') hc'
      by_cases hxy : xs.getD k 0 = ys.getD k 0
      · have he' : Hid (∀ j, j < k + 1 → xs.getD j 0 = ys.getD j 0) := fun j hj => by
          by_cases e : j = k
          · subst e; exact hxy
          · exact he.out j (by omega)
        rw [← hxy] at hc'
        clear hxy
        generalize xs.getD k 0 = x at hc hc'
        go_wp2
        go_quiet (fail)
        go_wp2
        exact ⟨⟨k + 1, by omega, by go_num, he', below_drewN hbel _⟩, by simp [intOf]; omega⟩
      · have hno := Lib.hid (lists_ne hxy)
        generalize xs.getD k 0 = x at hc hxy
        generalize ys.getD k 0 = y at hc' hxy
        go_wp2
        go_quiet (fail)
        go_wp2
        go_ret
        exact ⟨by rw [hno.out]; rfl, below_drewN hbel _⟩
    · have : k = n := by omega
      subst this
      go_wp2
      go_ret
      exact ⟨by rw [decide_eq_true (lists_ext hR.out.1 hR'.out.1 he.out)]; rfl, hbel⟩

set_option maxHeartbeats 400000 in
theorem same_lib (a a' : Option Addr) (n m cap cap' : Nat) (xs ys : List Int) (w : World) (h : Row w a n xs) (h' : Row w a' m ys) (hm : n ≤ 9223372036854775807) (hm' : m ≤ 9223372036854775807) :
    Calls Try.prog 77 #[.slice a n cap, .slice a' m cap'] w fun e w' => e = .returned (.bool (decide (xs = ys))) ∧ Below w.heap.size w w' := by
  by_cases hnm : n = m
  case neg =>
    rw [lists_len (by rw [h.1, h'.1]; exact hnm)]
    have hb : ((n : Int) != (m : Int)) = true := by rw [bne_iff_ne]; omega
    clear h h'
    go_enter Try.func77, Try.ntmps77
    go_wp2
    go_ret
    exact ⟨rfl, Below.refl _ _⟩
  subst hnm
  have hR := Lib.hid h
  have hR' := Lib.hid h'
  clear h h'
  go_enter Try.func77, Try.ntmps77
  go_wp2
  go_loopw [13] (fun i wr => ∃ k : Nat, k ≤ n ∧ i = .int .i64 k ∧ Hid (∀ j, j < k → xs.getD j 0 = ys.getD j 0) ∧ Below w.heap.size w wr) (fun i _ => n - (intOf i).toNat)
  case atStart => exact ⟨0, Nat.zero_le _, rfl, fun j hj => absurd hj (Nat.not_lt_zero _), Below.refl _ _⟩
  case round =>
    obtain ⟨k, hk, rfl, he, hbel⟩ := hrel
    by_cases hlt : k < n
    · obtain ⟨b, off, rfl, hc⟩ := row_at hR.out hlt
      obtain ⟨b', off', rfl, hc'⟩ := row_at hR'.out hlt
      have hc := kept hbel (block_lt hc) hc
      have hc' := kept hbel (block_lt hc') hc'
      by_cases hxy : xs.getD k 0 = ys.getD k 0
      · have he' : Hid (∀ j, j < k + 1 → xs.getD j 0 = ys.getD j 0) := fun j hj => by
          by_cases e : j = k
          · subst e; exact hxy
          · exact he.out j (by omega)
        rw [← hxy] at hc'
        clear hxy
        generalize xs.getD k 0 = x at hc hc'
        go_wp2
        go_quiet (fail)
        go_wp2
        exact ⟨⟨k + 1, by omega, by go_num, he', below_drewN hbel _⟩, by simp [intOf]; omega⟩
      · have hno := Lib.hid (lists_ne hxy)
        generalize xs.getD k 0 = x at hc hxy
        generalize ys.getD k 0 = y at hc' hxy
        go_wp2
        go_quiet (fail)
        go_wp2
        go_ret
        exact ⟨by rw [hno.out]; rfl, below_drewN hbel _⟩
    · have : k = n := by omega
      subst this
      go_wp2
      go_ret
      exact ⟨by rw [decide_eq_true (lists_ext hR.out.1 hR'.out.1 he.out)]; rfl, hbel⟩

set_option maxHeartbeats 400000 in
theorem eq_laws (a a' : Option Addr) (n m cap cap' : Nat) (xs ys : List Int) (w : World) (h : Row w a n xs) (h' : Row w a' m ys) (hm : n ≤ 9223372036854775807) (hm' : m ≤ 9223372036854775807) :
    Calls Try.prog 48 #[.slice a n cap, .slice a' m cap'] w fun e w' => e = .returned (.bool (decide (xs = ys))) ∧ Below w.heap.size w w' := by
  by_cases hnm : n = m
  case neg =>
    rw [lists_len (by rw [h.1, h'.1]; exact hnm)]
    have hb : ((n : Int) != (m : Int)) = true := by rw [bne_iff_ne]; omega
    clear h h'
    go_enter Try.func48, Try.ntmps48
    go_wp2
    go_ret
    exact ⟨rfl, Below.refl _ _⟩
  subst hnm
  have hR := Lib.hid h
  have hR' := Lib.hid h'
  clear h h'
  go_enter Try.func48, Try.ntmps48
  go_wp2
  go_loopw [5] (fun i wr => ∃ k : Nat, k ≤ n ∧ i = .int .i64 k ∧ Hid (∀ j, j < k → xs.getD j 0 = ys.getD j 0) ∧ Below w.heap.size w wr) (fun i _ => n - (intOf i).toNat)
  case atStart => exact ⟨0, Nat.zero_le _, rfl, fun j hj => absurd hj (Nat.not_lt_zero _), Below.refl _ _⟩
  case round =>
    obtain ⟨k, hk, rfl, he, hbel⟩ := hrel
    by_cases hlt : k < n
    · obtain ⟨b, off, rfl, hc⟩ := row_at hR.out hlt
      obtain ⟨b', off', rfl, hc'⟩ := row_at hR'.out hlt
      have hc := kept hbel (block_lt hc) hc
      have hc' := kept hbel (block_lt hc') hc'
      by_cases hxy : xs.getD k 0 = ys.getD k 0
      · have he' : Hid (∀ j, j < k + 1 → xs.getD j 0 = ys.getD j 0) := fun j hj => by
          by_cases e : j = k
          · subst e; exact hxy
          · exact he.out j (by omega)
        rw [← hxy] at hc'
        clear hxy
        generalize xs.getD k 0 = x at hc hc'
        go_wp2
        go_quiet (fail)
        go_wp2
        exact ⟨⟨k + 1, by omega, by go_num, he', below_drewN hbel _⟩, by simp [intOf]; omega⟩
      · have hno := Lib.hid (lists_ne hxy)
        generalize xs.getD k 0 = x at hc hxy
        generalize ys.getD k 0 = y at hc' hxy
        go_wp2
        go_quiet (fail)
        go_wp2
        go_ret
        exact ⟨by rw [hno.out]; rfl, below_drewN hbel _⟩
    · have : k = n := by omega
      subst this
      go_wp2
      go_ret
      exact ⟨by rw [decide_eq_true (lists_ext hR.out.1 hR'.out.1 he.out)]; rfl, hbel⟩

/-- All numbers are in a range. -/
def allIn (xs : List Int) (lo hi : Int) : Bool := xs.all fun x => inB x lo hi
theorem allIn_iff {xs : List Int} {lo hi : Int} : allIn xs lo hi = true ↔ ∀ i, i < xs.length → lo ≤ xs.getD i 0 ∧ xs.getD i 0 ≤ hi := by
  rw [allIn, List.all_eq_true]
  constructor
  · intro h i hi; exact inB_iff.1 (h _ (by rw [getD_elem hi]; exact List.getElem_mem hi))
  · intro h x hx
    obtain ⟨i, hi, rfl⟩ := List.getElem_of_mem hx
    have := h i hi
    rw [getD_elem hi] at this
    exact inB_iff.2 this
theorem allIn_no {xs : List Int} {lo hi : Int} {i : Nat} (h : i < xs.length) (h2 : xs.getD i 0 < lo ∨ hi < xs.getD i 0) : allIn xs lo hi = false := by
  rw [Bool.eq_false_iff]; intro e
  have := allIn_iff.1 e i h
  omega

set_option maxHeartbeats 400000 in
theorem each_spec (a : Option Addr) (n cap : Nat) (xs : List Int) (lo hi : Int) (w : World) (h : Row w a n xs) (hm : n ≤ 9223372036854775807) :
    Calls Try.prog 108 #[.slice a n cap, .int .i64 lo, .int .i64 hi] w fun e w' => e = .returned (.bool (allIn xs lo hi)) ∧ w = w' := by
  have hR := Lib.hid h
  clear h
  go_enter Try.func108, Try.ntmps108
  go_wp2
  go_loop [7] (fun i => ∃ k : Nat, k ≤ n ∧ i = .int .i64 k ∧ Hid (∀ j, j < k → lo ≤ xs.getD j 0 ∧ xs.getD j 0 ≤ hi)) (fun i => n - (intOf i).toNat)
  case atStart => exact ⟨0, Nat.zero_le _, rfl, fun j hj => absurd hj (Nat.not_lt_zero _)⟩
  case round =>
    obtain ⟨k, hk, rfl, he⟩ := hrel
    by_cases hlt : k < n
    · obtain ⟨b, off, rfl, hc⟩ := row_at hR.out hlt
      by_cases hxy : lo ≤ xs.getD k 0 ∧ xs.getD k 0 ≤ hi
      · have he' : Hid (∀ j, j < k + 1 → lo ≤ xs.getD j 0 ∧ xs.getD j 0 ≤ hi) := fun j hj => by
          by_cases e : j = k
          · subst e; exact hxy
          · exact he.out j (by omega)
        have hin : inB (xs.getD k 0) lo hi = true := inB_iff.2 hxy
        clear hxy
        generalize xs.getD k 0 = x at hc hin
        go_wp2_with fail
        refine (in_any _ _ _ _).mono ?_
        rintro e w1 ⟨rfl, rfl⟩
        rw [hin]
        go_wp2_with fail
        exact ⟨⟨k + 1, by omega, by go_num, he'⟩, by simp [intOf]; omega⟩
      · have hno := Lib.hid (allIn_no (lo := lo) (hi := hi) (by rw [hR.out.1]; exact hlt) (show xs.getD k 0 < lo ∨ hi < xs.getD k 0 by omega))
        have hin : inB (xs.getD k 0) lo hi = false := inB_no (by omega)
        clear hxy
        generalize xs.getD k 0 = x at hc hin
        go_wp2_with fail
        refine (in_any _ _ _ _).mono ?_
        rintro e w1 ⟨rfl, rfl⟩
        rw [hin]
        go_wp2_with fail
        go_ret
        exact ⟨by rw [hno.out]; rfl, rfl⟩
    · have : k = n := by omega
      subst this
      go_wp2
      go_ret
      exact ⟨by rw [allIn_iff.2 (by rw [hR.out.1]; exact he.out)]; rfl, rfl⟩

set_option maxHeartbeats 400000 in
theorem within_impl (a : Option Addr) (n cap : Nat) (xs : List Int) (hi : Int) (w : World) (h : Row w a n xs) (hm : n ≤ 9223372036854775807) :
    Calls Try.prog 105 #[.slice a n cap, .int .i64 hi] w fun e w' => e = .returned (.bool (allIn xs 0 hi)) ∧ w = w' := by
  have hR := Lib.hid h
  clear h
  go_enter Try.func105, Try.ntmps105
  go_wp2
  go_loop [9] (fun i => ∃ k : Nat, k ≤ n ∧ i = .int .i64 k ∧ Hid (∀ j, j < k → 0 ≤ xs.getD j 0 ∧ xs.getD j 0 ≤ hi)) (fun i => n - (intOf i).toNat)
  case atStart => exact ⟨0, Nat.zero_le _, rfl, fun j hj => absurd hj (Nat.not_lt_zero _)⟩
  case round =>
    obtain ⟨k, hk, rfl, he⟩ := hrel
    by_cases hlt : k < n
    · obtain ⟨b, off, rfl, hc⟩ := row_at hR.out hlt
      by_cases hxy : 0 ≤ xs.getD k 0 ∧ xs.getD k 0 ≤ hi
      · have he' : Hid (∀ j, j < k + 1 → 0 ≤ xs.getD j 0 ∧ xs.getD j 0 ≤ hi) := fun j hj => by
          by_cases e : j = k
          · subst e; exact hxy
          · exact he.out j (by omega)
        generalize xs.getD k 0 = x at hc hxy
        go_wp2_with fail
        exact ⟨⟨k + 1, by omega, by go_num, he'⟩, by simp [intOf]; omega⟩
      · have hno := Lib.hid (allIn_no (lo := 0) (hi := hi) (by rw [hR.out.1]; exact hlt) (show xs.getD k 0 < 0 ∨ hi < xs.getD k 0 by omega))
        have hxy : xs.getD k 0 < 0 ∨ hi < xs.getD k 0 := by omega
        generalize xs.getD k 0 = x at hc hxy
        by_cases h0 : x < 0
        · clear hxy
          go_wp2_with fail
          go_ret
          exact ⟨by rw [hno.out]; rfl, rfl⟩
        · have hxy : hi < x := by omega
          go_wp2_with fail
          go_ret
          exact ⟨by rw [hno.out]; rfl, rfl⟩
    · have : k = n := by omega
      subst this
      go_wp2
      go_ret
      exact ⟨by rw [allIn_iff.2 (by rw [hR.out.1]; exact he.out)]; rfl, rfl⟩

def sumsB (rows cols : List Int) : Bool := inB rows.length 1 6 && (inB cols.length 1 6 && (allIn rows 0 cols.length && allIn cols 0 rows.length))
theorem sumsB_1 {rows cols : List Int} (h : inB rows.length 1 6 = false) : sumsB rows cols = false := by simp [sumsB, h]
theorem sumsB_2 {rows cols : List Int} (h : inB cols.length 1 6 = false) : sumsB rows cols = false := by simp [sumsB, h]
theorem sumsB_3 {rows cols : List Int} (h : allIn rows 0 cols.length = false) : sumsB rows cols = false := by simp [sumsB, h]
theorem sumsB_4 {rows cols : List Int} (h : allIn cols 0 rows.length = false) : sumsB rows cols = false := by simp [sumsB, h]
theorem sumsB_5 {rows cols : List Int} (h1 : inB rows.length 1 6 = true) (h2 : inB cols.length 1 6 = true) (h3 : allIn rows 0 cols.length = true) (h4 : allIn cols 0 rows.length = true) : sumsB rows cols = true := by simp [sumsB, h1, h2, h3, h4]

set_option maxHeartbeats 400000 in
theorem sumsValid_impl (a a' : Option Addr) (n m cap cap' : Nat) (xs ys : List Int) (w : World) (h : Row w a n xs) (h' : Row w a' m ys) (hm : n ≤ 9223372036854775807) (hm' : m ≤ 9223372036854775807) :
    Calls Try.prog 83 #[.slice a n cap, .slice a' m cap'] w fun e w' => e = .returned (.bool (sumsB xs ys)) ∧ w = w' := by
  have hx := h.1
  have hy := h'.1
  obtain ⟨R, hR⟩ : ∃ R, sumsB xs ys = R := ⟨_, rfl⟩
  rw [hR]
  have hR := Lib.hid hR
  go_enter Try.func83, Try.ntmps83
  go_wp2_with fail
  refine (side_any _ _).mono ?_
  rintro e w1 ⟨rfl, rfl⟩
  by_cases h1 : inB n 1 6 = true
  case neg =>
    have h1 : inB n 1 6 = false := by simpa using h1
    rw [h1]
    go_wp2_with fail
    go_ret
    exact ⟨by rw [← hR.out, sumsB_1 (by rw [hx]; exact h1)]; rfl, rfl⟩
  rw [h1]
  go_wp2_with fail
  refine (side_any _ _).mono ?_
  rintro e w1 ⟨rfl, rfl⟩
  by_cases h2 : inB m 1 6 = true
  case neg =>
    have h2 : inB m 1 6 = false := by simpa using h2
    rw [h2]
    go_wp2_with fail
    go_ret
    exact ⟨by rw [← hR.out, sumsB_2 (by rw [hy]; exact h2)]; rfl, rfl⟩
  rw [h2]
  go_wp2_with fail
  refine (within_impl _ _ _ xs _ _ h (by omega)).mono ?_
  rintro e w1 ⟨rfl, rfl⟩
  by_cases h3 : allIn xs 0 m = true
  case neg =>
    have h3 : allIn xs 0 m = false := by simpa using h3
    rw [h3]
    go_wp2_with fail
    go_ret
    exact ⟨by rw [← hR.out, sumsB_3 (by rw [hy]; exact h3)]; rfl, rfl⟩
  rw [h3]
  go_wp2_with fail
  refine (within_impl _ _ _ ys _ _ h' (by omega)).mono ?_
  rintro e w1 ⟨rfl, rfl⟩
  by_cases h4 : allIn ys 0 n = true
  case neg =>
    have h4 : allIn ys 0 n = false := by simpa using h4
    rw [h4]
    go_wp2_with fail
    go_ret
    exact ⟨by rw [← hR.out, sumsB_4 (by rw [hx]; exact h4)]; rfl, rfl⟩
  rw [h4]
  go_wp2_with fail
  go_ret
  exact ⟨by rw [← hR.out, sumsB_5 (by rw [hx]; exact h1) (by rw [hy]; exact h2) (by rw [hy]; exact h3) (by rw [hx]; exact h4)]; rfl, rfl⟩

set_option maxHeartbeats 400000 in
theorem sumsValid_spec (a a' : Option Addr) (n m cap cap' : Nat) (xs ys : List Int) (w : World) (h : Row w a n xs) (h' : Row w a' m ys) (hm : n ≤ 9223372036854775807) (hm' : m ≤ 9223372036854775807) :
    Calls Try.prog 92 #[.slice a n cap, .slice a' m cap'] w fun e w' => e = .returned (.bool (sumsB xs ys)) ∧ w = w' := by
  have hx := h.1
  have hy := h'.1
  obtain ⟨R, hR⟩ : ∃ R, sumsB xs ys = R := ⟨_, rfl⟩
  rw [hR]
  have hR := Lib.hid hR
  go_enter Try.func92, Try.ntmps92
  go_wp2_with fail
  refine (in_any _ _ _ _).mono ?_
  rintro e w1 ⟨rfl, rfl⟩
  by_cases h1 : inB n 1 6 = true
  case neg =>
    have h1 : inB n 1 6 = false := by simpa using h1
    rw [h1]
    go_wp2_with fail
    go_ret
    exact ⟨by rw [← hR.out, sumsB_1 (by rw [hx]; exact h1)]; rfl, rfl⟩
  rw [h1]
  go_wp2_with fail
  refine (in_any _ _ _ _).mono ?_
  rintro e w1 ⟨rfl, rfl⟩
  by_cases h2 : inB m 1 6 = true
  case neg =>
    have h2 : inB m 1 6 = false := by simpa using h2
    rw [h2]
    go_wp2_with fail
    go_ret
    exact ⟨by rw [← hR.out, sumsB_2 (by rw [hy]; exact h2)]; rfl, rfl⟩
  rw [h2]
  go_wp2_with fail
  refine (each_spec _ _ _ xs _ _ _ h (by omega)).mono ?_
  rintro e w1 ⟨rfl, rfl⟩
  by_cases h3 : allIn xs 0 m = true
  case neg =>
    have h3 : allIn xs 0 m = false := by simpa using h3
    rw [h3]
    go_wp2_with fail
    go_ret
    exact ⟨by rw [← hR.out, sumsB_3 (by rw [hy]; exact h3)]; rfl, rfl⟩
  rw [h3]
  go_wp2_with fail
  refine (each_spec _ _ _ ys _ _ _ h' (by omega)).mono ?_
  rintro e w1 ⟨rfl, rfl⟩
  by_cases h4 : allIn ys 0 n = true
  case neg =>
    have h4 : allIn ys 0 n = false := by simpa using h4
    rw [h4]
    go_wp2_with fail
    go_ret
    exact ⟨by rw [← hR.out, sumsB_4 (by rw [hx]; exact h4)]; rfl, rfl⟩
  rw [h4]
  go_wp2_with fail
  go_ret
  exact ⟨by rw [← hR.out, sumsB_5 (by rw [hx]; exact h1) (by rw [hy]; exact h2) (by rw [hy]; exact h3) (by rw [hx]; exact h4)]; rfl, rfl⟩

theorem sumsV_impl (a a' : Option Addr) (n m cap cap' : Nat) (xs ys : List Int) (w : World) (h : Row w a n xs) (h' : Row w a' m ys) (hm : n ≤ 9223372036854775807) (hm' : m ≤ 9223372036854775807) :
    Calls Try.prog 83 #[.slice a n cap, .slice a' m cap'] w fun e w' => e = .returned (.bool (sumsB xs ys)) ∧ Below w.heap.size w w' :=
  (sumsValid_impl a a' n m cap cap' xs ys w h h' hm hm').mono fun _ _ hh => ⟨hh.1, hh.2 ▸ Below.refl _ _⟩

theorem sumsV_spec (a a' : Option Addr) (n m cap cap' : Nat) (xs ys : List Int) (w : World) (h : Row w a n xs) (h' : Row w a' m ys) (hm : n ≤ 9223372036854775807) (hm' : m ≤ 9223372036854775807) :
    Calls Try.prog 92 #[.slice a n cap, .slice a' m cap'] w fun e w' => e = .returned (.bool (sumsB xs ys)) ∧ Below w.heap.size w w' :=
  (sumsValid_spec a a' n m cap cap' xs ys w h h' hm hm').mono fun _ _ hh => ⟨hh.1, hh.2 ▸ Below.refl _ _⟩

/-- An image fits sums. -/
def fitB (W : Int) (xs rows cols : List Int) : Bool := validB W xs && (decide (rsOut W xs = rows) && decide (csOut W xs = cols))
theorem fitB_1 {W : Int} {xs rows cols : List Int} (h : validB W xs = false) : fitB W xs rows cols = false := by simp [fitB, h]
theorem fitB_2 {W : Int} {xs rows cols : List Int} (h : decide (rsOut W xs = rows) = false) : fitB W xs rows cols = false := by simp only [fitB, h, Bool.false_and, Bool.and_false]
theorem fitB_3 {W : Int} {xs rows cols : List Int} (h : decide (csOut W xs = cols) = false) : fitB W xs rows cols = false := by simp only [fitB, h, Bool.and_false]
theorem fitB_4 {W : Int} {xs rows cols : List Int} (h : validB W xs = true) (h2 : decide (rsOut W xs = rows) = true) (h3 : decide (csOut W xs = cols) = true) : fitB W xs rows cols = true := by simp only [fitB, h, h2, h3, Bool.and_true]
theorem rsOut_len (W : Int) (xs : List Int) : (rsOut W xs).length ≤ xs.length := by unfold rsOut; split <;> simp [rs_len]
theorem rsOut_six (W : Int) (xs : List Int) : (rsOut W xs).length ≤ 6 := by
  unfold rsOut; split
  · rename_i h; have := validB_len h; rw [rs_len]; omega
  · simp
theorem csOut_len (W : Int) (xs : List Int) : (csOut W xs).length ≤ 6 := by
  unfold csOut; split
  · rename_i h; have := validB_W h; rw [cs_len]; omega
  · simp

set_option maxHeartbeats 800000 in
theorem fit_impl (W : Int) (a a' a'' : Option Addr) (len n m cap cap' cap'' : Nat) (xs rows cols : List Int) (w : World) (h : Row w a len xs) (h' : Row w a' n rows) (h'' : Row w a'' m cols) (hm : len ≤ 9223372036854775807) (hm' : n ≤ 9223372036854775807) (hm'' : m ≤ 9223372036854775807) :
    Calls Try.prog 34 #[.agg #[.int .i64 W, .slice a len cap], .slice a' n cap', .slice a'' m cap''] w fun e w' => e = .returned (.bool (fitB W xs rows cols)) ∧ Below w.heap.size w w' := by
  obtain ⟨R, hR⟩ : ∃ R, fitB W xs rows cols = R := ⟨_, rfl⟩
  rw [hR]
  have hR := Lib.hid hR
  have hl := h.1
  obtain ⟨W0, hW0⟩ : ∃ W0, W0 = w.alloc (.cells #[.int .i64 W, .slice a len cap] 30) := ⟨_, rfl⟩
  have b0 : Below w.heap.size w W0 := by subst hW0; exact (Below.refl _ _).alloc (Nat.le_refl _) _
  have x0 : W0.cell? ⟨w.heap.size, 0, none⟩ = some (.int .i64 W) := by subst hW0; simp
  have x1 : W0.cell? ⟨w.heap.size, 1, none⟩ = some (.slice a len cap) := by subst hW0; simp
  have hxl : (rsOut W xs).length ≤ 9223372036854775807 := by have := rsOut_len W xs; omega
  have hyl : (csOut W xs).length ≤ 9223372036854775807 := by have := csOut_len W xs; omega
  have h := Lib.hid h
  have h' := Lib.hid h'
  have h'' := Lib.hid h''
  go_enter Try.func34, Try.ntmps34
  go_wp2_with fail
  rw [← hW0]
  clear hW0
  refine (valid_impl _ _ _ _ xs _ (h.out.bel b0) hm).mono ?_
  rintro e w1 ⟨rfl, hb⟩
  have b1 := Lib.hid (b0.trans (hb.mono b0.size))
  have x0 := kept hb (block_lt x0) x0
  have x1 := kept hb (block_lt x1) x1
  clear hb b0
  by_cases h1 : validB W xs = true
  case neg =>
    have h1 : validB W xs = false := by simpa using h1
    rw [h1]
    go_wp2_with fail
    go_ret
    exact ⟨by rw [← hR.out, fitB_1 h1]; rfl, b1.out⟩
  rw [h1]
  have h1 := Lib.hid h1
  go_wp2_with fail
  refine (rsums_impl _ _ _ _ xs _ (h.out.bel b1.out) hm).mono ?_
  rintro e w2 ⟨⟨s, c, rfl, ho⟩, hb⟩
  have b2 := Lib.hid (b1.out.trans (hb.mono b1.out.size))
  have x0 := kept hb (block_lt x0) x0
  have x1 := kept hb (block_lt x1) x1
  have ho := Lib.hid ho.row
  clear hb b1
  go_wp2_with fail
  refine (same_lib _ _ _ _ _ _ (rsOut W xs) rows _ ho.out (h'.out.bel b2.out) hxl hm').mono ?_
  rintro e w3 ⟨rfl, hb⟩
  have b3 := Lib.hid (b2.out.trans (hb.mono b2.out.size))
  have x0 := kept hb (block_lt x0) x0
  have x1 := kept hb (block_lt x1) x1
  clear hb b2 ho
  by_cases h2 : decide (rsOut W xs = rows) = true
  case neg =>
    have h2 : decide (rsOut W xs = rows) = false := by simpa using h2
    rw [h2]
    have h2 := Lib.hid h2
    go_wp2_with fail
    go_ret
    exact ⟨by rw [← hR.out, fitB_2 h2.out]; rfl, b3.out⟩
  rw [h2]
  have h2 := Lib.hid h2
  go_wp2_with fail
  refine (csums_impl _ _ _ _ xs _ (h.out.bel b3.out) hm).mono ?_
  rintro e w4 ⟨⟨s, c, rfl, ho⟩, hb⟩
  have b4 := Lib.hid (b3.out.trans (hb.mono b3.out.size))
  have ho := Lib.hid ho.row
  clear hb b3 x0 x1
  go_wp2_with fail
  refine (same_lib _ _ _ _ _ _ (csOut W xs) cols _ ho.out (h''.out.bel b4.out) hyl hm'').mono ?_
  rintro e w5 ⟨rfl, hb⟩
  have b5 := Lib.hid (b4.out.trans (hb.mono b4.out.size))
  clear hb b4 ho
  by_cases h3 : decide (csOut W xs = cols) = true
  case neg =>
    have h3 : decide (csOut W xs = cols) = false := by simpa using h3
    rw [h3]
    have h3 := Lib.hid h3
    go_wp2_with fail
    go_ret
    exact ⟨by rw [← hR.out, fitB_3 h3.out]; rfl, b5.out⟩
  rw [h3]
  have h3 := Lib.hid h3
  go_wp2_with fail
  go_ret
  exact ⟨by rw [← hR.out, fitB_4 h1.out h2.out h3.out]; rfl, b5.out⟩

end Go.Proofs.Ytnfkafaolelkbaa

namespace Go.Proofs.Ytnfkafaolelkbaa
set_option maxRecDepth 100000
open Go.RowKit

/-- Two images have the same sums. -/
def sameB (V : Int) (xs : List Int) (W : Int) (ys : List Int) : Bool := fitB W ys (rsOut V xs) (csOut V xs)
theorem rsOut_yes {W : Int} {xs : List Int} (h : validB W xs = true) : rsOut W xs = rsL xs W.toNat xs.length := if_pos h
theorem csOut_yes {W : Int} {xs : List Int} (h : validB W xs = true) : csOut W xs = csL xs xs.length W.toNat := if_pos h
theorem rsOut_no {W : Int} {xs : List Int} (h : validB W xs = false) : rsOut W xs = [] := if_neg (by rw [h]; exact Bool.false_ne_true)
theorem csOut_no {W : Int} {xs : List Int} (h : validB W xs = false) : csOut W xs = [] := if_neg (by rw [h]; exact Bool.false_ne_true)
theorem rsOut_ne {W : Int} {xs : List Int} (h : validB W xs = true) : rsOut W xs ≠ [] := by
  intro e
  have := congrArg List.length e
  rw [rsOut_yes h, rs_len, List.length_nil] at this
  have h2 := validB_len h
  omega
theorem same_flip (V : Int) (xs : List Int) (W : Int) (ys : List Int) : (validB W ys && fitB V xs (rsOut W ys) (csOut W ys)) = sameB V xs W ys := by
  unfold sameB fitB
  by_cases h1 : validB W ys = true
  · by_cases h2 : validB V xs = true
    · rw [h1, h2]; simp only [Bool.true_and]
      congr 1 <;> exact decide_eq_decide.2 ⟨Eq.symm, Eq.symm⟩
    · have h2 : validB V xs = false := by simpa using h2
      rw [h1, h2, rsOut_no h2, decide_eq_false (rsOut_ne h1)]; simp
  · have h1 : validB W ys = false := by simpa using h1
    rw [h1]; simp

set_option maxHeartbeats 1000000 in
theorem same_impl (V W : Int) (a b : Option Addr) (n m c d : Nat) (xs ys : List Int) (w : World) (h : Row w a n xs) (h' : Row w b m ys) (hm : n ≤ 9223372036854775807) (hm' : m ≤ 9223372036854775807) :
    Calls Try.prog 38 #[.agg #[.int .i64 V, .slice a n c], .agg #[.int .i64 W, .slice b m d]] w fun e w' => e = .returned (.bool (sameB V xs W ys)) ∧ Below w.heap.size w w' := by
  obtain ⟨R, hR⟩ : ∃ R, sameB V xs W ys = R := ⟨_, rfl⟩
  rw [hR]
  have hR := Lib.hid hR
  have hl := h.1
  obtain ⟨W0, hW0⟩ : ∃ W0, W0 = (w.alloc (.cells #[.int .i64 V, .slice a n c] 30)).alloc (.cells #[.int .i64 W, .slice b m d] 30) := ⟨_, rfl⟩
  have b0 : Below w.heap.size w W0 := by subst hW0; exact ((Below.refl _ _).alloc (Nat.le_refl _) _).alloc (by simp) _
  have x0 : W0.cell? ⟨w.heap.size, 0, none⟩ = some (.int .i64 V) := by subst hW0; go_simp
  have x1 : W0.cell? ⟨w.heap.size, 1, none⟩ = some (.slice a n c) := by subst hW0; go_simp
  have y0 : W0.cell? ⟨w.heap.size + 1, 0, none⟩ = some (.int .i64 W) := by subst hW0; go_simp
  have y1 : W0.cell? ⟨w.heap.size + 1, 1, none⟩ = some (.slice b m d) := by subst hW0; go_simp
  have hxl : (rsOut V xs).length ≤ 9223372036854775807 := by have := rsOut_len V xs; omega
  have hyl : (csOut V xs).length ≤ 9223372036854775807 := by have := csOut_len V xs; omega
  have hs0 : w.heap.size + 1 < W0.heap.size := block_lt y0
  have b0 := Lib.hid (b0.drew)
  have hsy : w.heap.size + 1 < W0.drew.heap.size := hs0
  have hsx : w.heap.size < W0.drew.heap.size := Nat.lt_of_succ_lt hs0
  have h := Lib.hid h
  have h' := Lib.hid h'
  have r0 := Lib.hid (h.out.bel b0.out)
  go_enter Try.func38, Try.ntmps38
  go_wp2_with fail
  rw [← hW0]
  clear hW0
  go_region_law (first | ((go_simp; go_at_call 27; (with_reducible refine (rsums_impl V a n c xs _ r0.out hm).mono ?_); rintro e w1 ⟨⟨s1, c1, rfl, ho1⟩, hb1⟩; have x0 := kept hb1 hsx (show W0.drew.cell? _ = _ from x0); have x1 := kept hb1 hsx (show W0.drew.cell? _ = _ from x1); have y0 := kept hb1 hsy (show W0.drew.cell? _ = _ from y0); have y1 := kept hb1 hsy (show W0.drew.cell? _ = _ from y1); have l1 : w.heap.size + 1 < w1.heap.size := block_lt y0; have b1 := Lib.hid (b0.out.trans (hb1.mono b0.out.size)); have ho1 := Lib.hid ho1.row; have r1 := Lib.hid (h.out.bel b1.out); clear hb1)) | ((go_simp; go_at_call 28; (with_reducible refine (csums_impl V a n c xs _ r1.out hm).mono ?_); rintro e w2 ⟨⟨s2, c2, rfl, ho2⟩, hb2⟩; have x0 := kept hb2 (Nat.lt_of_succ_lt l1) x0; have x1 := kept hb2 (Nat.lt_of_succ_lt l1) x1; have y0 := kept hb2 l1 y0; have y1 := kept hb2 l1 y1; have l2 : w.heap.size + 1 < w2.heap.size := block_lt y0; have b2 := Lib.hid (b1.out.trans (hb2.mono b1.out.size)); have ho1 := Lib.hid (ho1.out.bel hb2); have ho2 := Lib.hid ho2.row; have r2 := Lib.hid (h'.out.bel b2.out); clear hb2)) | ((go_simp; go_at_call 34; (with_reducible refine (fit_impl W b s1 s2 m _ _ d c1 c2 ys (rsOut V xs) (csOut V xs) _ r2.out ho1.out ho2.out hm' hxl hyl).mono ?_); rintro e w3 ⟨rfl, hb3⟩; have b3 := Lib.hid (b2.out.trans (hb3.mono b2.out.size)); clear hb3)))
  all_goals
    go_wp2_with fail
    go_ret
    exact ⟨by rw [← hR.out]; rfl, b3.out⟩

end Go.Proofs.Ytnfkafaolelkbaa

namespace Go.Proofs.Ytnfkafaolelkbaa
set_option maxRecDepth 100000
open Go.RowKit

theorem rs_get {xs : List Int} {W n i : Nat} (hi : i < n) : (rsL xs W n).getD i 0 = cntI (xs.getD i 0) W := rows_get (fun i => cntI (xs.getD i 0) W) hi
theorem cs_get {xs : List Int} {W n j : Nat} (hj : j < W) : (csL xs n W).getD j 0 = csI xs j n := rows_get (fun j => csI xs j n) hj
theorem Im.rs {W n : Nat} {xs : List Int} (h : Im W n xs) : rsOut W xs = rsL xs W n := by
  rw [rsOut, if_pos h.valid, h.hl, Int.toNat_natCast]
theorem Im.cs {W n : Nat} {xs : List Int} (h : Im W n xs) : csOut W xs = csL xs n W := by
  rw [csOut, if_pos h.valid, h.hl, Int.toNat_natCast]
theorem rs_total (xs : List Int) (W n : Nat) : sumI (fun i => (rsL xs W n).getD i 0) n = manyI W xs n := by
  rw [many_sum]
  exact sum_ext fun _ hi => by rw [rs_get hi, cnt_sum]
theorem cs_total (xs : List Int) (W n : Nat) : sumI (fun j => (csL xs n W).getD j 0) W = manyI W xs n := by
  rw [many_sum, sum_swap]
  exact sum_ext fun _ hj => cs_get hj
theorem Im.turn_cs {W n : Nat} {xs : List Int} (h : Im W n xs) : csL (turnL xs W n) W n = rsL xs W n :=
  rows_ext fun _ hi => by
    rw [cnt_sum]
    exact sum_ext fun _ hj => h.turn_bit hi hj
theorem Im.turn_rs {W n : Nat} {xs : List Int} (h : Im W n xs) : rsL (turnL xs W n) n W = csL xs n W :=
  rows_ext fun _ hj => by
    rw [cnt_sum]
    exact sum_ext fun _ hi => h.turn_bit hi hj
theorem Im.mir_rs {W n : Nat} {xs : List Int} (h : Im W n xs) : rsL (mirL xs W n) W n = rsL xs W n :=
  rows_ext fun i hi => by
    rw [show (mirL xs W n).getD i 0 = mirI W (xs.getD i 0) W from rows_get (fun i => mirI W (xs.getD i 0) W) hi]
    obtain ⟨m, e, hm⟩ := h.nat hi
    rw [e]
    exact (mirb_nat W (by have := h.w6; omega) m hm).2.2.1
theorem Im.mir_csI {W n : Nat} {xs : List Int} (h : Im W n xs) {j : Nat} (hj : j < W) : csI (mirL xs W n) j n = csI xs (W - 1 - j) n :=
  sum_ext fun _ hi => h.mir_bit' hi hj
theorem Im.mir_cs {W n : Nat} {xs : List Int} (h : Im W n xs) {j : Nat} (hj : j < W) : (csL (mirL xs W n) n W).getD j 0 = (csL xs n W).getD (W - 1 - j) 0 := by
  rw [cs_get hj, cs_get (by omega), h.mir_csI hj]
theorem Im.oth_rs {W n : Nat} {xs : List Int} (h : Im W n xs) : rsL (othL xs W n) W n = rowsL (fun i => W - (rsL xs W n).getD i 0) n :=
  rows_ext fun i hi => by
    obtain ⟨m, hm, hm64⟩ := h.nat hi
    have := (h.row i hi).2
    rw [rs_get hi, oth_get hi, hm]
    exact (othb_nat W (by have := h.w6; omega) m hm64 (by rw [← hm]; exact this)).2.1
theorem sum_sub (f : Nat → Int) (k : Nat) : sumI (fun i => 1 - f i) k = k - sumI f k := by
  induction k with
  | zero => rfl
  | succ k ih => simp only [sumI]; rw [ih]; omega
theorem Im.oth_cs {W n : Nat} {xs : List Int} (h : Im W n xs) : csL (othL xs W n) n W = rowsL (fun j => n - (csL xs n W).getD j 0) W :=
  rows_ext fun j hj => by
    rw [cs_get hj]
    unfold csI
    rw [← sum_sub]
    exact sum_ext fun _ hi => h.oth_bit hi hj

theorem Im.ok {W n : Nat} {xs : List Int} (h : Im W n xs) : n ≤ 9223372036854775807 ∧ W ≤ 9223372036854775807 := by have := h.l6; have := h.w6; omega
theorem Im.rs_bd {W n : Nat} {xs : List Int} (_ : Im W n xs) {i : Nat} (hi : i < n) : 0 ≤ (rsL xs W n).getD i 0 ∧ (rsL xs W n).getD i 0 ≤ W := by rw [rs_get hi]; exact cnt_bd _ _
theorem Im.cs_bd {W n : Nat} {xs : List Int} (_ : Im W n xs) {j : Nat} (hj : j < W) : 0 ≤ (csL xs n W).getD j 0 ∧ (csL xs n W).getD j 0 ≤ n := by rw [cs_get hj]; exact csI_bd _ _ _
theorem Im.sumsV {W n : Nat} {xs : List Int} (h : Im W n xs) : sumsB (rsL xs W n) (csL xs n W) = true := by
  have := h.w1; have := h.w6; have := h.l1; have := h.l6
  refine sumsB_5 (by rw [rs_len]; exact inB_yes (by omega) (by omega)) (by rw [cs_len]; exact inB_yes (by omega) (by omega)) (allIn_iff.2 fun i hi => ?_) (allIn_iff.2 fun i hi => ?_)
  · rw [rs_len] at hi; rw [cs_len]; exact h.rs_bd hi
  · rw [cs_len] at hi; rw [rs_len]; exact h.cs_bd hi

theorem sum_small {f : Nat → Int} {k : Nat} (h : ∀ i, i < k → 0 ≤ f i ∧ f i ≤ 6) : 0 ≤ sumI f k ∧ sumI f k ≤ 6 * k := by
  induction k with
  | zero => simp [sumI]
  | succ k ih => have := ih fun i hi => h i (by omega); have := h k (by omega); simp only [sumI]; omega

set_option maxHeartbeats 400000 in
theorem sumOf_any (a : Option Addr) (n cap : Nat) (xs : List Int) (w : World) (h : Row w a n xs) (hn : n ≤ 6) (hb : ∀ i, i < n → 0 ≤ xs.getD i 0 ∧ xs.getD i 0 ≤ 6) :
    Calls Try.prog 23 #[.slice a n cap] w fun e w' => e = .returned (.int .i64 (sumI (fun i => xs.getD i 0) n)) ∧ w = w' := by
  have hR := Lib.hid h
  have hsm : Hid (∀ k, k ≤ n → 0 ≤ sumI (fun i => xs.getD i 0) k ∧ sumI (fun i => xs.getD i 0) k ≤ 6 * k) := fun k hk => sum_small fun i hi => hb i (by omega)
  have hb := Lib.hid hb
  clear h
  go_enter Try.func23, Try.ntmps23
  go_wp2
  go_loop [3, 4] (fun o i => ∃ k : Nat, k ≤ n ∧ i = .int .i64 k ∧ o = .int .i64 (sumI (fun i => xs.getD i 0) k)) (fun _ i => n - (intOf i).toNat)
  case atStart => exact ⟨0, Nat.zero_le _, rfl, rfl⟩
  case round =>
    obtain ⟨k, hk, rfl, rfl⟩ := hrel
    have hs := hsm.out k hk
    by_cases hlt : k < n
    · obtain ⟨b, off, rfl, hc⟩ := row_at hR.out hlt
      have hx := hb.out k hlt
      have hsn : sumI (fun i => xs.getD i 0) (k + 1) = sumI (fun i => xs.getD i 0) k + xs.getD k 0 := rfl
      generalize sumI (fun i => xs.getD i 0) k = q at hs hsn
      generalize xs.getD k 0 = x at hc hx hsn
      have hsn := Lib.hid hsn
      go_wp2
      exact ⟨⟨k + 1, by omega, by go_num, by rw [hsn.out]⟩, by simp [intOf]; omega⟩
    · have : k = n := by omega
      subst this
      go_wp2
      go_ret
      exact ⟨rfl, rfl⟩

/-- What a function that gives a list of so many numbers leaves. -/
def GivesK (w : World) (k : Nat) (L : List Int) (e : Ending) (w' : World) : Prop :=
  (∃ a cap, e = .returned (.slice a k cap) ∧ OwnI w' w.heap.size a k cap L) ∧ Below w.heap.size w w'
theorem GivesL.k {w w' : World} {L M : List Int} {e : Ending} {k : Nat} (h : GivesL w L e w') (hl : L.length = k) (hM : L = M) : GivesK w k M e w' := by subst hl; subst hM; exact h
theorem sumOf_bel (a : Option Addr) (n cap : Nat) (xs : List Int) (w : World) (h : Row w a n xs) (hn : n ≤ 6) (hb : ∀ i, i < n → 0 ≤ xs.getD i 0 ∧ xs.getD i 0 ≤ 6) (q : Int) (hq : sumI (fun i => xs.getD i 0) n = q) :
    Calls Try.prog 23 #[.slice a n cap] w fun e w' => e = .returned (.int .i64 q) ∧ Below w.heap.size w w' := by
  subst hq; exact (sumOf_any a n cap xs w h hn hb).mono fun _ _ h => ⟨h.1, h.2 ▸ Below.refl _ _⟩
theorem rs_ok {W n : Nat} {xs : List Int} (h : Im W n xs) (s : Option Addr) (cg : Nat) (w : World) (hR : Row w s n xs) :
    Calls Try.prog 27 #[.agg #[.int .i64 W, .slice s n cg]] w (GivesK w n (rsL xs W n)) :=
  (rsums_impl W s n cg xs w hR h.ok.1).mono fun _ _ hg => hg.k (by rw [h.rs, rs_len]) h.rs
theorem cs_ok {W n : Nat} {xs : List Int} (h : Im W n xs) (s : Option Addr) (cg : Nat) (w : World) (hR : Row w s n xs) :
    Calls Try.prog 28 #[.agg #[.int .i64 W, .slice s n cg]] w (GivesK w W (csL xs n W)) :=
  (csums_impl W s n cg xs w hR h.ok.1).mono fun _ _ hg => hg.k (by rw [h.cs, cs_len]) h.cs
theorem rs_sok {W n : Nat} {xs : List Int} (h : Im W n xs) (s : Option Addr) (cg : Nat) (w : World) (hR : Row w s n xs) :
    Calls Try.prog 64 #[.agg #[.int .i64 W, .slice s n cg]] w (GivesK w n (rsL xs W n)) :=
  (rsums_spec W s n cg xs w hR h.ok.1).mono fun _ _ hg => hg.k (by rw [h.rs, rs_len]) h.rs
theorem cs_sok {W n : Nat} {xs : List Int} (h : Im W n xs) (s : Option Addr) (cg : Nat) (w : World) (hR : Row w s n xs) :
    Calls Try.prog 65 #[.agg #[.int .i64 W, .slice s n cg]] w (GivesK w W (csL xs n W)) :=
  (csums_spec W s n cg xs w hR h.ok.1).mono fun _ _ hg => hg.k (by rw [h.cs, cs_len]) h.cs
theorem rs_no {W : Int} {n : Nat} {xs : List Int} (h : validB W xs = false) (hn : n ≤ 6) (s : Option Addr) (cg : Nat) (w : World) (hR : Row w s n xs) :
    Calls Try.prog 27 #[.agg #[.int .i64 W, .slice s n cg]] w (GivesK w 0 []) :=
  (rsums_impl W s n cg xs w hR (by omega)).mono fun _ _ hg => hg.k (by rw [rsOut, h]; rfl) (by rw [rsOut, h]; rfl)
theorem cs_no {W : Int} {n : Nat} {xs : List Int} (h : validB W xs = false) (hn : n ≤ 6) (s : Option Addr) (cg : Nat) (w : World) (hR : Row w s n xs) :
    Calls Try.prog 28 #[.agg #[.int .i64 W, .slice s n cg]] w (GivesK w 0 []) :=
  (csums_impl W s n cg xs w hR (by omega)).mono fun _ _ hg => hg.k (by rw [csOut, h]; rfl) (by rw [csOut, h]; rfl)
theorem rs_sno {W : Int} {n : Nat} {xs : List Int} (h : validB W xs = false) (hn : n ≤ 6) (s : Option Addr) (cg : Nat) (w : World) (hR : Row w s n xs) :
    Calls Try.prog 64 #[.agg #[.int .i64 W, .slice s n cg]] w (GivesK w 0 []) :=
  (rsums_spec W s n cg xs w hR (by omega)).mono fun _ _ hg => hg.k (by rw [rsOut, h]; rfl) (by rw [rsOut, h]; rfl)
theorem cs_sno {W : Int} {n : Nat} {xs : List Int} (h : validB W xs = false) (hn : n ≤ 6) (s : Option Addr) (cg : Nat) (w : World) (hR : Row w s n xs) :
    Calls Try.prog 65 #[.agg #[.int .i64 W, .slice s n cg]] w (GivesK w 0 []) :=
  (csums_spec W s n cg xs w hR (by omega)).mono fun _ _ hg => hg.k (by rw [csOut, h]; rfl) (by rw [csOut, h]; rfl)
end Go.Proofs.Ytnfkafaolelkbaa

namespace Go.Proofs.Ytnfkafaolelkbaa
set_option maxRecDepth 100000
open Go.RowKit

/-- Two lists of the call's own, and the reader, in the middle of a drawing function. -/
structure SS (w wr : World) (r : Nat) (a : Option Addr) (len cap : Nat) (zs : List Int) (p : Nat) (g n c : Nat) (xs : List Int) (g' m c' : Nat) (ys : List Int) : Prop where
  oR : OwnI wr w.heap.size (some ⟨g, 0, none⟩) n c xs
  oC : OwnI wr w.heap.size (some ⟨g', 0, none⟩) m c' ys
  ne : g ≠ g'
  rd : Rd wr r a len cap zs p
  gr : w.grownBy wr (some r)
  hr : r < w.heap.size
  far : ∀ b off, a = some ⟨b, off, none⟩ → 0 < len → b < w.heap.size
theorem own_ge {w : World} {B g n c : Nat} {xs : List Int} (h : OwnI w B (some ⟨g, 0, none⟩) n c xs) : B ≤ g ∧ g < w.heap.size := rng_own h _ rfl
theorem SS.pick {w wr w1 : World} {r : Nat} {a : Option Addr} {len cap : Nat} {zs : List Int} {p p' g n c : Nat} {xs : List Int} {g' m c' : Nat} {ys : List Int} (h : SS w wr r a len cap zs p g n c xs g' m c' ys) (hr : Rd w1 r a len cap zs p') (hg : wr.grownBy w1 (some r)) : SS w w1 r a len cap zs p' g n c xs g' m c' ys :=
  ⟨h.oR.other hg h.hr, h.oC.other hg h.hr, h.ne, hr, grown_trans h.gr hg, h.hr, h.far⟩
theorem SS.setR {w wr : World} {r : Nat} {a : Option Addr} {len cap : Nat} {zs : List Int} {p g n c : Nat} {xs : List Int} {g' m c' : Nat} {ys : List Int} (h : SS w wr r a len cap zs p g n c xs g' m c' ys) (k : Nat) (v : Int) : SS w (wr.setCell ⟨g, k, none⟩ (.int .i64 v)) r a len cap zs p g n c (xs.set k v) g' m c' ys := by
  have h1 := own_ge h.oR
  have h2 := own_ge h.oC
  have h3 := h.ne
  have h4 := h.hr
  exact ⟨h.oR.set k v, World.ownsRow.kept h.oC (grown_set (g := g) (World.grownBy.refl _ _)) (.inr (by simp [Value.ownBlock]; omega)), h.ne, h.rd.apart (grown_set (World.grownBy.refl _ _)) (by omega) (fun b off e hl => by have := h.far b off e hl; omega), grown_then h.gr ((Below.refl _ _).setCell (by simp; omega) _), h.hr, h.far⟩
theorem SS.setC {w wr : World} {r : Nat} {a : Option Addr} {len cap : Nat} {zs : List Int} {p g n c : Nat} {xs : List Int} {g' m c' : Nat} {ys : List Int} (h : SS w wr r a len cap zs p g n c xs g' m c' ys) (k : Nat) (v : Int) : SS w (wr.setCell ⟨g', k, none⟩ (.int .i64 v)) r a len cap zs p g n c xs g' m c' (ys.set k v) := by
  have h1 := own_ge h.oR
  have h2 := own_ge h.oC
  have h3 := h.ne
  have h4 := h.hr
  exact ⟨World.ownsRow.kept h.oR (grown_set (g := g') (World.grownBy.refl _ _)) (.inr (by simp [Value.ownBlock]; omega)), h.oC.set k v, h.ne, h.rd.apart (grown_set (World.grownBy.refl _ _)) (by omega) (fun b off e hl => by have := h.far b off e hl; omega), grown_then h.gr ((Below.refl _ _).setCell (by simp; omega) _), h.hr, h.far⟩
theorem set_bd {xs : List Int} {n k : Nat} {v lo hi : Int} (hl : xs.length = n) (h : ∀ i, i < n → lo ≤ xs.getD i 0 ∧ xs.getD i 0 ≤ hi) (hv : lo ≤ v ∧ v ≤ hi) : ∀ i, i < n → lo ≤ (xs.set k v).getD i 0 ∧ (xs.set k v).getD i 0 ≤ hi := by
  intro i hi
  by_cases e : i = k
  · subst e; rw [getD_elem (by rw [List.length_set]; omega)]; simpa using hv
  · have := h i hi
    rw [getD_elem (by omega)] at this
    rw [getD_elem (by rw [List.length_set]; omega), List.getElem_set_ne (by omega)]; exact this
theorem bd_wide {xs : List Int} {n : Nat} {lo hi lo' hi' : Int} (h : ∀ i, i < n → lo ≤ xs.getD i 0 ∧ xs.getD i 0 ≤ hi) (h1 : lo' ≤ lo) (h2 : hi ≤ hi') : ∀ i, i < n → lo' ≤ xs.getD i 0 ∧ xs.getD i 0 ≤ hi' := fun i hi => by have := h i hi; omega

/-- What l91Sums leaves: two lists of small numbers. -/
def SumsD (w : World) (r : Nat) (a : Option Addr) (len cap : Nat) (zs : List Int) (p : Nat) (e : Ending) (w' : World) : Prop :=
  ∃ (g n c : Nat) (xs : List Int) (g' m c' : Nat) (ys : List Int) (p' : Nat), e = .returned (.tuple #[.slice (some ⟨g, 0, none⟩) n c, .slice (some ⟨g', 0, none⟩) m c']) ∧ SS w w' r a len cap zs p' g n c xs g' m c' ys ∧ p' ≤ p + 20 ∧ (1 ≤ n ∧ n ≤ 6 ∧ 1 ≤ m ∧ m ≤ 6) ∧ (∀ i, i < n → -1 ≤ xs.getD i 0 ∧ xs.getD i 0 ≤ 7) ∧ (∀ i, i < m → -1 ≤ ys.getD i 0 ∧ ys.getD i 0 ≤ 7)

set_option maxHeartbeats 800000 in
theorem sums_any (r : Nat) (a : Option Addr) (len cap : Nat) (zs : List Int) (p : Nat) (w : World) (h : Rd w r a len cap zs p) (hp : p ≤ 700) :
    Calls Try.prog 88 #[.pointer (some ⟨r, 0, none⟩), .int .i64 36] w (SumsD w r a len cap zs p) := by
  have hrw : r < w.heap.size := block_lt h.c0
  have far := Lib.hid h.src
  go_enter Try.func88, Try.ntmps88
  go_wp2_with fail
  refine (image_any r a len cap zs p _ h (by omega)).mono ?_
  rintro e w1 ⟨W, H, xs, g, cg, p1, rfl, ho, hI, hr1, hp1, hg1⟩
  have hW1 := hI.w1
  have hW6 := hI.w6
  have hH1 := hI.l1
  have hH6 := hI.l6
  have b1 : Below w1.heap.size w1 (w1.alloc (.cells #[.int .i64 W, .slice (some ⟨g, 0, none⟩) H cg] 30)) := (Below.refl _ _).alloc (Nat.le_refl _) _
  have y0 : (w1.alloc (.cells #[.int .i64 W, .slice (some ⟨g, 0, none⟩) H cg] 30)).cell? ⟨w1.heap.size, 0, none⟩ = some (.int .i64 W) := by simp
  have y1 : (w1.alloc (.cells #[.int .i64 W, .slice (some ⟨g, 0, none⟩) H cg] 30)).cell? ⟨w1.heap.size, 1, none⟩ = some (.slice (some ⟨g, 0, none⟩) H cg) := by simp
  have row := Lib.hid (ho.row.bel b1)
  have rd := Lib.hid (hr1.bel b1)
  have gr := Lib.hid (grown_then hg1 (b1.mono hg1.size))
  have s1 := hg1.size
  have hI := Lib.hid hI
  clear ho hr1 hg1 b1 h
  go_wp2_with fail
  refine (rs_sok hI.out _ _ _ row.out).mono ?_
  rintro e w2 ⟨⟨aR, cR, rfl, hoR⟩, hb⟩
  have s2 : w1.heap.size + 1 ≤ w2.heap.size := by have := hb.size; simpa using this
  have y0 := kept hb (by simp) y0
  have y1 := kept hb (by simp) y1
  have row := Lib.hid (row.out.bel hb)
  have rd := Lib.hid (rd.out.bel hb)
  have gr := Lib.hid (grown_then gr.out (hb.mono (by simp; omega)))
  have hoR := Lib.hid (hoR.mono (B' := w.heap.size) (by simp; omega))
  clear hb
  go_wp2_with fail
  refine (cs_sok hI.out _ _ _ row.out).mono ?_
  rintro e w3 ⟨⟨aC, cC, rfl, hoC⟩, hb⟩
  obtain ⟨gR, rfl⟩ : ∃ gR, aR = some ⟨gR, 0, none⟩ := by
    rcases hoR.out.cases with ⟨_, h, _⟩ | ⟨g, h, _⟩
    · omega
    · exact ⟨g, h⟩
  obtain ⟨gC, rfl⟩ : ∃ gC, aC = some ⟨gC, 0, none⟩ := by
    rcases hoC.cases with ⟨_, h, _⟩ | ⟨g, h, _⟩
    · omega
    · exact ⟨g, h⟩
  have n1 := own_ge hoR.out
  have n2 := own_ge hoC
  have hs3 := hb.size
  have S : SS w w3 r a len cap zs p1 gR H cR (rsL xs W H) gC W cC (csL xs H W) :=
    ⟨hoR.out.bel hb, hoC.mono (by omega), by omega, rd.out.bel hb, grown_then gr.out (hb.mono (by omega)), hrw, far.out⟩
  have bR := bd_wide (lo' := -1) (hi' := 7) (fun i hi => hI.out.rs_bd (i := i) hi) (by omega) (by omega)
  have bC := bd_wide (lo' := -1) (hi' := 7) (fun i hi => hI.out.cs_bd (j := i) hi) (by omega) (by omega)
  have bC6 := bd_wide (lo' := 0) (hi' := 6) (fun i hi => hI.out.cs_bd (j := i) hi) (by omega) (by omega)
  have lR : (rsL xs W H).length = H := rs_len _ _ _
  have lC : (csL xs H W).length = W := cs_len _ _ _
  generalize rsL xs W H = rows at S bR lR
  generalize csL xs H W = cols at S bC lC bC6
  have bR := Lib.hid bR
  have bC := Lib.hid bC
  have bC6 := Lib.hid bC6
  have S := Lib.hid S
  clear row rd gr hoR hoC hb y0 y1 n1 n2 hI far s1 s2 hs3
  go_wp2_with fail
  refine (pick_any r a len cap zs p1 8 _ S.out.rd (by omega) (by omega)).mono ?_
  rintro e w4 ⟨v, rfl, hv0, hv1, hr, hg⟩
  have S := Lib.hid (S.out.pick hr hg)
  clear hr hg
  by_cases e0 : v = 0
  · subst e0
    go_wp2_with fail
    refine (pick_any r a len cap zs _ H _ S.out.rd (by omega) (by omega)).mono ?_
    rintro e w5 ⟨k, rfl, hk0, hk1, hr, hg⟩
    have S := Lib.hid (S.out.pick hr hg)
    clear hr hg
    go_wp2_with fail
    refine (pick_any r a len cap zs _ ((W : Int) + 1) _ S.out.rd (by omega) (by omega)).mono ?_
    rintro e w6 ⟨u, rfl, hu0, hu1, hr, hg⟩
    have S := (S.out.pick hr hg)
    clear hr hg
    obtain ⟨k, rfl⟩ := Int.eq_ofNat_of_zero_le hk0
    have hc := own_cell S.oR (i := k) (by omega)
    have hf := S.oR.frozen
    have S2 := Lib.hid (S.setR k u)
    clear S
    go_wp2_with fail
    refine bodyPost_ret (v := .tuple #[.slice (some ⟨gR, 0, none⟩) H cR, .slice (some ⟨gC, 0, none⟩) W cC]) (by simp [results, Try.results88, go_sem]) rfl ?_
    exact ⟨gR, H, cR, _, gC, W, cC, cols, _, rfl, S2.out, by omega, by omega, set_bd lR bR.out (by omega), bC.out⟩
  by_cases e1 : v = 1
  · subst e1
    go_wp2_with fail
    refine (pick_any r a len cap zs _ W _ S.out.rd (by omega) (by omega)).mono ?_
    rintro e w5 ⟨k, rfl, hk0, hk1, hr, hg⟩
    have S := Lib.hid (S.out.pick hr hg)
    clear hr hg
    go_wp2_with fail
    refine (pick_any r a len cap zs _ W _ S.out.rd (by omega) (by omega)).mono ?_
    rintro e w6 ⟨l, rfl, hl0, hl1, hr, hg⟩
    have S := (S.out.pick hr hg)
    clear hr hg
    obtain ⟨k, rfl⟩ := Int.eq_ofNat_of_zero_le hk0
    obtain ⟨l, rfl⟩ := Int.eq_ofNat_of_zero_le hl0
    have hc := own_cell S.oC (i := k) (by omega)
    have hf := S.oC.frozen
    have q1 := bC6.out k (by omega)
    generalize cols.getD k 0 = x at hc q1
    have S2 := S.setC k (x + 1)
    have bd2 := set_bd (k := k) (v := x + 1) (lo := 0) (hi := 7) lC (bd_wide bC6.out (by omega) (by omega)) (by omega)
    have lC2 : (cols.set k (x + 1)).length = W := by rw [List.length_set]; exact lC
    generalize cols.set k (x + 1) = cols2 at S2 bd2 lC2
    have hc2 := own_cell S2.oC (i := l) (by omega)
    have hf2 := S2.oC.frozen
    have q2 := bd2 l (by omega)
    generalize cols2.getD l 0 = y at hc2 q2
    have S3 := Lib.hid (S2.setC l (y - 1))
    have bd3 := Lib.hid (set_bd (k := l) (v := y - 1) (lo := -1) (hi := 7) lC2 (bd_wide bd2 (by omega) (by omega)) (by omega))
    have i1 : IntKind.i64.wrap (x + 1) = x + 1 := IntWalk.i64_in _ ⟨by omega, by omega⟩
    have i2 : IntKind.i64.wrap (y - 1) = y - 1 := IntWalk.i64_in _ ⟨by omega, by omega⟩
    clear S S2
    go_wp2_with fail
    refine bodyPost_ret (v := .tuple #[.slice (some ⟨gR, 0, none⟩) H cR, .slice (some ⟨gC, 0, none⟩) W cC]) (by simp [results, Try.results88, go_sem]) rfl ?_
    exact ⟨gR, H, cR, rows, gC, W, cC, _, _, rfl, S3.out, by omega, by omega, bR.out, bd3.out⟩
  by_cases e2 : v = 2
  · subst e2
    go_wp2_with fail
    refine (pick_any r a len cap zs _ 2 _ S.out.rd (by omega) (by omega)).mono ?_
    rintro e w5 ⟨k, rfl, hk0, hk1, hr, hg⟩
    have S := (S.out.pick hr hg)
    clear hr hg
    have hc := own_cell S.oC (i := 0) (by omega)
    have hf := S.oC.frozen
    have S2 := Lib.hid (S.setC 0 ((H : Int) + k))
    have i1 : IntKind.i64.wrap ((H : Int) + k) = (H : Int) + k := IntWalk.i64_in _ ⟨by omega, by omega⟩
    clear S
    go_wp2_with fail
    refine bodyPost_ret (v := .tuple #[.slice (some ⟨gR, 0, none⟩) H cR, .slice (some ⟨gC, 0, none⟩) W cC]) (by simp [results, Try.results88, go_sem]) rfl ?_
    exact ⟨gR, H, cR, rows, gC, W, cC, _, _, rfl, S2.out, by omega, by omega, bR.out, set_bd lC bC.out (by omega)⟩
  go_wp2_with fail
  refine bodyPost_ret (v := .tuple #[.slice (some ⟨gR, 0, none⟩) H cR, .slice (some ⟨gC, 0, none⟩) W cC]) (by simp [results, Try.results88, go_sem]) rfl ?_
  exact ⟨gR, H, cR, rows, gC, W, cC, cols, _, rfl, S.out, by omega, by omega, bR.out, bC.out⟩

/-- What l91SumsWrong leaves: two lists of small numbers, perhaps none, perhaps many. -/
def SumsW (w : World) (r : Nat) (a : Option Addr) (len cap : Nat) (zs : List Int) (p : Nat) (e : Ending) (w' : World) : Prop :=
  ∃ (aR : Option Addr) (n c : Nat) (xs : List Int) (aC : Option Addr) (m c' : Nat) (ys : List Int) (p' : Nat), e = .returned (.tuple #[.slice aR n c, .slice aC m c']) ∧ OwnI w' w.heap.size aR n c xs ∧ OwnI w' w.heap.size aC m c' ys ∧ (∀ g g', aR = some ⟨g, 0, none⟩ → aC = some ⟨g', 0, none⟩ → g ≠ g') ∧ Rd w' r a len cap zs p' ∧ w.grownBy w' (some r) ∧ p' ≤ p + 21 ∧ (n ≤ 6 ∧ 1 ≤ m ∧ m ≤ 12) ∧ (∀ i, i < n → -1 ≤ xs.getD i 0 ∧ xs.getD i 0 ≤ 7) ∧ (∀ i, i < m → -1 ≤ ys.getD i 0 ∧ ys.getD i 0 ≤ 7)

set_option maxHeartbeats 800000 in
theorem sumsW_any (r : Nat) (a : Option Addr) (len cap : Nat) (zs : List Int) (p : Nat) (w : World) (h : Rd w r a len cap zs p) (hp : p ≤ 700) :
    Calls Try.prog 54 #[.pointer (some ⟨r, 0, none⟩), .int .i64 36] w (SumsW w r a len cap zs p) := by
  go_enter Try.func54, Try.ntmps54
  go_wp2_with fail
  refine (sums_any r a len cap zs p _ h (by omega)).mono ?_
  rintro e w1 ⟨gR, n, cR, xs, gC, m, cC, ys, p1, rfl, S, hp1, hnm, bR, bC⟩
  have S := Lib.hid S
  have bR := Lib.hid bR
  have bC := Lib.hid bC
  clear h
  go_wp2_with fail
  refine (pick_any r a len cap zs p1 30 _ S.out.rd (by omega) (by omega)).mono ?_
  rintro e w2 ⟨v, rfl, hv0, hv1, hr, hg⟩
  have S := S.out.pick hr hg
  have hne : ∀ g g', (some ⟨gR, 0, none⟩ : Option Addr) = some ⟨g, 0, none⟩ → (some ⟨gC, 0, none⟩ : Option Addr) = some ⟨g', 0, none⟩ → g ≠ g' := fun g g' h1 h2 => by
    have := S.ne
    simp only [Option.some.injEq, Addr.mk.injEq, and_true] at h1 h2
    omega
  clear hr hg
  by_cases e0 : v = 0
  · subst e0
    have hc := own_cell S.oR (i := 0) (by omega)
    have hf := S.oR.frozen
    have lR := S.oR.len
    have S2 := Lib.hid (S.setR 0 (-1))
    clear S
    go_wp2_with fail
    refine bodyPost_ret (v := .tuple #[.slice (some ⟨gR, 0, none⟩) n cR, .slice (some ⟨gC, 0, none⟩) m cC]) (by simp [results, Try.results54, go_sem]) rfl ?_
    exact ⟨_, n, cR, _, _, m, cC, ys, _, rfl, S2.out.oR, S2.out.oC, hne, S2.out.rd, S2.out.gr, by omega, by omega, set_bd lR bR.out (by omega), bC.out⟩
  by_cases e1 : v = 1
  · subst e1
    have hb : Below w2.heap.size w2 (w2.alloc (.cells #[] 3)) := (Below.refl _ _).alloc (Nat.le_refl _) _
    have hz := S.gr.size
    have hown := own_ge S.oC
    have S := Lib.hid S
    go_wp2_with fail
    refine bodyPost_ret (v := .tuple #[.slice (some ⟨w2.heap.size, 0, none⟩) 0 0, .slice (some ⟨gC, 0, none⟩) m cC]) (by simp [results, Try.results54, go_sem]) rfl ?_
    refine ⟨_, 0, 0, [], _, m, cC, ys, _, rfl, own_empty w2 w.heap.size w2.heap.size rfl hz, S.out.oC.bel hb, ?_, S.out.rd.bel hb, grown_then S.out.gr (hb.mono hz), by omega, by omega, fun i hi => absurd hi (Nat.not_lt_zero _), bC.out⟩
    intro g g' h1 h2
    simp only [Option.some.injEq, Addr.mk.injEq, and_true] at h1 h2
    omega
  by_cases e2 : v = 2
  · subst e2
    obtain ⟨i0, hi, hz0, hz1, hz2⟩ := info_parts infoInt
    have hz := S.gr.size
    have hown := own_ge S.oR
    have hownC := own_ge S.oC
    have hrw := S.hr
    have lC := S.oC.len
    have S := Lib.hid S
    have hb : Below w2.heap.size w2 (w2.alloc (.cells #[.int .i64 0, .int .i64 0, .int .i64 0, .int .i64 0, .int .i64 0, .int .i64 0] 3)) := (Below.refl _ _).alloc (Nat.le_refl _) _
    go_wp2_with (at_builtin; refine wpList_append_own_at _ rfl _ _ 23 rfl w.heap.size 3 i0 (.int .i64 0) 1 8 Try.underlying23 hi hz0 hz1 hz2 rfl (by decide) _ m (ys.map (Value.int .i64)) rfl (World.ownsRow.alloc S.out.oC _) ⟨w2.heap.size, 0, none⟩ 6 6 [.int .i64 0, .int .i64 0, .int .i64 0, .int .i64 0, .int .i64 0, .int .i64 0] rfl rfl ?c1 ?c2 ?c3 ?c4 ?c5 ?_)
    case c1 => intro j u hj; match j, hj with | 0, hj | 1, hj | 2, hj | 3, hj | 4, hj | 5, hj => simp at hj; subst hj; simp [Addr.add]
    case c2 => intro u hu; simp at hu; subst hu; rfl
    case c3 => unfold maxLen; omega
    case c4 => omega
    case c5 => simp; omega
    intro v' w3 hown1 hgr _ hblk
    have hgr : (w2.alloc (.cells #[.int .i64 0, .int .i64 0, .int .i64 0, .int .i64 0, .int .i64 0, .int .i64 0] 3)).grownBy w3 (some gC) := hgr
    obtain ⟨a', cap', rfl, ho3⟩ := own_of (xs := ys ++ [0, 0, 0, 0, 0, 0]) (by rw [List.map_append]; exact hown1)
    have hb3 : Below w.heap.size w2 w3 := ((Below.refl w.heap.size w2).alloc hz _).grown hgr (by simp; omega) (fun k hk => by simp at hk; omega)
    have hoR : OwnI w3 w.heap.size (some ⟨gR, 0, none⟩) n cR xs := World.ownsRow.kept (S.out.oR.bel hb) hgr (.inr (by have := S.out.ne; simp [Value.ownBlock]; omega))
    have hrd : Rd w3 r a len cap zs (p1 + 1) := (S.out.rd.bel hb).apart hgr (by omega) (fun b off e hl => by have := S.out.far b off e hl; omega)
    have hne3 : ∀ g g', (some ⟨gR, 0, none⟩ : Option Addr) = some ⟨g, 0, none⟩ → a' = some ⟨g', 0, none⟩ → g ≠ g' := fun g g' h1 h2 => by
      have := S.out.ne
      subst h2
      simp only [Option.some.injEq, Addr.mk.injEq, and_true] at h1
      simp [Value.ownBlock] at hblk
      omega
    have bC3 : ∀ i, i < m + 6 → -1 ≤ (ys ++ [0, 0, 0, 0, 0, 0]).getD i 0 ∧ (ys ++ [0, 0, 0, 0, 0, 0]).getD i 0 ≤ 7 := fun i hi => by
      by_cases h : i < m
      · have := bC.out i h
        rw [List.getD_eq_getElem?_getD, List.getElem?_append_left (by omega), ← List.getD_eq_getElem?_getD]; exact this
      · rw [List.getD_eq_getElem?_getD, List.getElem?_append_right (by omega), lC]
        have : ∀ k, k < 6 → -1 ≤ (([0, 0, 0, 0, 0, 0] : List Int)[k]?).getD 0 ∧ (([0, 0, 0, 0, 0, 0] : List Int)[k]?).getD 0 ≤ 7 := by decide
        exact this _ (by omega)
    have g3 := grown_then S.out.gr hb3
    have ho3 := Lib.hid ho3
    have hoR := Lib.hid hoR
    have hrd := Lib.hid hrd
    have bC3 := Lib.hid bC3
    clear hown1 hgr hblk hb3
    go_wp2_with fail
    refine bodyPost_ret (v := .tuple #[.slice (some ⟨gR, 0, none⟩) n cR, .slice a' (m + 6) cap']) (by simp [results, Try.results54, go_sem]) rfl ?_
    exact ⟨_, n, cR, xs, _, m + 6, cap', _, _, rfl, hoR.out, ho3.out, hne3, hrd.out, g3, by omega, by omega, bR.out, bC3.out⟩
  have S := Lib.hid S
  go_wp2_with fail
  refine bodyPost_ret (v := .tuple #[.slice (some ⟨gR, 0, none⟩) n cR, .slice (some ⟨gC, 0, none⟩) m cC]) (by simp [results, Try.results54, go_sem]) rfl ?_
  exact ⟨_, n, cR, xs, _, m, cC, ys, _, rfl, S.out.oR, S.out.oC, hne, S.out.rd, S.out.gr, by omega, by omega, bR.out, bC.out⟩
end Go.Proofs.Ytnfkafaolelkbaa

namespace Go.Proofs.Ytnfkafaolelkbaa
set_option maxRecDepth 100000
open Go.RowKit

theorem sumsB_flip {xs ys : List Int} (h : sumsB xs ys = true) : sumsB ys xs = true := by
  unfold sumsB at *
  simp only [Bool.and_eq_true] at *
  exact ⟨h.2.1, h.1, h.2.2.2, h.2.2.1⟩
theorem sumsB_parts {xs ys : List Int} (h : sumsB xs ys = true) : (1 ≤ xs.length ∧ xs.length ≤ 6) ∧ (1 ≤ ys.length ∧ ys.length ≤ 6) ∧ (∀ i, i < xs.length → 0 ≤ xs.getD i 0 ∧ xs.getD i 0 ≤ ys.length) ∧ (∀ i, i < ys.length → 0 ≤ ys.getD i 0 ∧ ys.getD i 0 ≤ xs.length) := by
  unfold sumsB at h
  simp only [Bool.and_eq_true] at h
  have h1 := inB_iff.1 h.1
  have h2 := inB_iff.1 h.2.1
  exact ⟨by omega, by omega, allIn_iff.1 h.2.2.1, allIn_iff.1 h.2.2.2⟩
theorem row_news {w : World} {b off n : Nat} {xs : List Int} (h : Row w (some ⟨b, off, none⟩) n xs) (hn : 0 < n := by omega) : ∀ j u, (xs.map (Value.int .i64))[j]? = some u → w.cell? ((⟨b, off, none⟩ : Addr).add j) = some u := by
  obtain ⟨b', off', e, hc⟩ := h.2.resolve_left (by omega)
  cases e
  exact news_of h.1 hc

/-- What a function that draws sums leaves. -/
def DrawnS (w : World) (e : Ending) (w' : World) : Prop :=
  ∃ (aR : Option Addr) (n c : Nat) (xs : List Int) (aC : Option Addr) (m c' : Nat) (ys : List Int), e = .returned (.tuple #[.slice aR n c, .slice aC m c']) ∧ Row w' aR n xs ∧ Row w' aC m ys ∧ (n ≤ 6 ∧ 1 ≤ m ∧ m ≤ 12) ∧ (n ≤ c ∧ m ≤ c') ∧ (∀ i, i < n → -1 ≤ xs.getD i 0 ∧ xs.getD i 0 ≤ 7) ∧ (∀ i, i < m → -1 ≤ ys.getD i 0 ∧ ys.getD i 0 ≤ 7) ∧ Below w.heap.size w w'

theorem rsOut_bd (W : Int) (xs : List Int) : ∀ i, i < (rsOut W xs).length → -1 ≤ (rsOut W xs).getD i 0 ∧ (rsOut W xs).getD i 0 ≤ 7 := by
  unfold rsOut
  by_cases hv : validB W xs = true
  · rw [if_pos hv]
    intro i hi
    rw [rs_len] at hi
    rw [rs_get hi]
    have := cnt_bd (xs.getD i 0) W.toNat
    have := validB_W hv
    omega
  · rw [if_neg hv]; intro i hi; simp at hi
theorem csOut_bd (W : Int) (xs : List Int) : ∀ i, i < (csOut W xs).length → -1 ≤ (csOut W xs).getD i 0 ∧ (csOut W xs).getD i 0 ≤ 7 := by
  unfold csOut
  by_cases hv : validB W xs = true
  · rw [if_pos hv]
    intro i hi
    rw [cs_len] at hi
    rw [cs_get hi]
    have := csI_bd xs i xs.length
    have := validB_len hv
    omega
  · rw [if_neg hv]; intro i hi; simp at hi
/-- What DrawSumsFit leaves. -/
def DrawnF (w : World) (e : Ending) (w' : World) : Prop :=
  ∃ (W : Int) (s : Option Addr) (l cg : Nat) (xs : List Int) (aR : Option Addr) (n c : Nat) (rows : List Int) (aC : Option Addr) (m c' : Nat) (cols : List Int), e = .returned (.tuple #[.agg #[.int .i64 W, .slice s l cg], .slice aR n c, .slice aC m c']) ∧ Row w' s l xs ∧ Row w' aR n rows ∧ Row w' aC m cols ∧ (l ≤ 6 ∧ n ≤ 6 ∧ m ≤ 12) ∧ (l ≤ cg ∧ n ≤ c ∧ m ≤ c') ∧ (∀ i, i < n → -1 ≤ rows.getD i 0 ∧ rows.getD i 0 ≤ 7) ∧ (∀ i, i < m → -1 ≤ cols.getD i 0 ∧ cols.getD i 0 ≤ 7) ∧ Below w.heap.size w w'

end Go.Proofs.Ytnfkafaolelkbaa

namespace Go.Proofs.Ytnfkafaolelkbaa
set_option maxRecDepth 100000
open Go.RowKit

def flipD (b : Bool) : Int := if b = true then -1 else 1
theorem flipD_bd (b : Bool) : -1 ≤ flipD b ∧ flipD b ≤ 1 := by cases b <;> simp [flipD]
theorem sum_one {f g : Nat → Int} {k m : Nat} {d : Int} (hm : m < k) (hf : f m = g m + d) (h : ∀ i, i < k → i ≠ m → f i = g i) : sumI f k = sumI g k + d := by
  induction k with
  | zero => omega
  | succ k ih =>
    simp only [sumI]
    by_cases e : m = k
    · subst e
      rw [sum_ext (f := f) (g := g) fun i hi => h i (by omega) (by omega), hf]; omega
    · rw [ih (by omega) fun i hi => h i (by omega), h k (by omega) (by omega)]; omega
theorem Im.flip_bit {W n : Nat} {xs : List Int} (h : Im W n xs) {i j k l : Nat} (hi : i < n) (hj : j < W) (hk : k < n) (hl : l < W) :
    bitI ((putL xs i j (!hasB W xs i j)).getD k 0) l = if k = i ∧ l = j then bitI (xs.getD k 0) l + flipD (hasB W xs i j) else bitI (xs.getD k 0) l := by
  rw [h.put_bit hi hj hk hl]
  by_cases e : k = i ∧ l = j
  · rw [if_pos e, if_pos e, e.1, e.2, h.has hi hj]
    have := bit_01 (xs.getD i 0) j
    rcases (show bitI (xs.getD i 0) j = 0 ∨ bitI (xs.getD i 0) j = 1 by omega) with e | e <;> rw [e] <;> rfl
  · rw [if_neg e, if_neg e]
theorem getD_set {xs : List Int} {n i k : Nat} {v : Int} (hl : xs.length = n) (hk : k < n) : (xs.set i v).getD k 0 = if k = i then v else xs.getD k 0 := by
  by_cases e : k = i
  · subst e; rw [if_pos rfl, getD_elem (by rw [List.length_set]; omega), List.getElem_set_self]
  · rw [if_neg e, getD_elem (by rw [List.length_set]; omega), List.getElem_set_ne (by omega), getD_elem (by omega)]
theorem Im.flip_rs {W n : Nat} {xs : List Int} (h : Im W n xs) {i j : Nat} (hi : i < n) (hj : j < W) :
    rsL (putL xs i j (!hasB W xs i j)) W n = (rsL xs W n).set i ((rsL xs W n).getD i 0 + flipD (hasB W xs i j)) := by
  refine lists_ext (n := n) (rs_len _ _ _) (by rw [List.length_set, rs_len]) fun k hk => ?_
  rw [getD_set (rs_len _ _ _) hk, rs_get hk, rs_get hk, rs_get hi, cnt_sum, cnt_sum, cnt_sum]
  by_cases e : k = i
  · subst e
    rw [if_pos rfl]
    refine sum_one hj ?_ fun l hl hne => ?_
    · rw [h.flip_bit hi hj hk hj, if_pos ⟨rfl, rfl⟩]
    · rw [h.flip_bit hi hj hk hl, if_neg (by omega)]
  · rw [if_neg e]
    exact sum_ext fun l hl => by rw [h.flip_bit hi hj hk hl, if_neg (by omega)]
theorem Im.flip_cs {W n : Nat} {xs : List Int} (h : Im W n xs) {i j : Nat} (hi : i < n) (hj : j < W) :
    csL (putL xs i j (!hasB W xs i j)) n W = (csL xs n W).set j ((csL xs n W).getD j 0 + flipD (hasB W xs i j)) := by
  refine lists_ext (n := W) (cs_len _ _ _) (by rw [List.length_set, cs_len]) fun l hl => ?_
  rw [getD_set (cs_len _ _ _) hl, cs_get hl, cs_get hl, cs_get hj]
  unfold csI
  by_cases e : l = j
  · subst e
    rw [if_pos rfl]
    refine sum_one hi ?_ fun k hk hne => ?_
    · rw [h.flip_bit hi hj hi hj, if_pos ⟨rfl, rfl⟩]
    · rw [h.flip_bit hi hj hk hj, if_neg (by omega)]
  · rw [if_neg e]
    exact sum_ext fun k hk => by rw [h.flip_bit hi hj hk hl, if_neg (by omega)]
/-- One cell changed: the sums differ. -/
theorem Im.flip_ne {W n : Nat} {xs : List Int} (h : Im W n xs) {i j : Nat} (hi : i < n) (hj : j < W) : rsL (putL xs i j (!hasB W xs i j)) W n ≠ rsL xs W n := by
  rw [h.flip_rs hi hj]
  intro e
  have e : ((rsL xs W n).set i ((rsL xs W n).getD i 0 + flipD (hasB W xs i j))).getD i 0 = (rsL xs W n).getD i 0 := congrArg (fun L : List Int => L.getD i 0) e
  rw [getD_set (rs_len _ _ _) hi, if_pos rfl] at e
  cases hb : hasB W xs i j <;> rw [hb] at e <;> simp only [flipD] at e <;> simp at e <;> omega
end Go.Proofs.Ytnfkafaolelkbaa
