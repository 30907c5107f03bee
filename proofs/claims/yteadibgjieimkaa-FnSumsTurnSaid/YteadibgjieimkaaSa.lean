/-
  Row sums and column sums: plain facts, and the contracts of the model's functions that make them.
-/
import Derived.Test.YteadibgjieimkaaT
import Derived.Test.YteadibgjieimkaaE
import Derived.Lib.SmallJoins
import Derived.Deep.AppendLies
namespace Go.Proofs.Yteadibgjieimkaa
set_option maxRecDepth 100000
open Go.RowKit

theorem rows_snoc (f : Nat → Int) (k : Nat) : rowsL f (k + 1) = rowsL f k ++ [f k] := by simp [rowsL, List.range_succ]
theorem rows_nil (f : Nat → Int) : rowsL f 0 = [] := rfl
/-- The row sums of the first rows. -/
def rsL (xs : List Int) (W n : Nat) : List Int := rowsL (fun i => cntI (xs.getD i 0) W) n
/-- The sum of a column, as far as a row. -/
def csI (xs : List Int) (j n : Nat) : Int := sumI (fun i => bitI (xs.getD i 0) j) n
/-- The column sums. -/
def csL (xs : List Int) (n W : Nat) : List Int := rowsL (fun j => csI xs j n) W
def rsOut (W : Int) (xs : List Int) : List Int := if validB W xs = true then rsL xs W.toNat xs.length else []
def csOut (W : Int) (xs : List Int) : List Int := if validB W xs = true then csL xs xs.length W.toNat else []
theorem rs_len (xs : List Int) (W n : Nat) : (rsL xs W n).length = n := rows_len _ _
theorem cs_len (xs : List Int) (n W : Nat) : (csL xs n W).length = W := rows_len _ _
theorem csI_bd (xs : List Int) (j n : Nat) : 0 ≤ csI xs j n ∧ csI xs j n ≤ n := by
  induction n with
  | zero => simp [csI, sumI]
  | succ n ih => have := bit_01 (xs.getD n 0) j; unfold csI at *; simp only [sumI]; omega
theorem csI_succ (xs : List Int) (j n : Nat) : csI xs j (n + 1) = csI xs j n + bitI (xs.getD n 0) j := rfl
theorem OwnI.cap {w : World} {B : Nat} {a : Option Addr} {len cap : Nat} {xs : List Int} (h : OwnI w B a len cap xs) : len ≤ cap := by
  rcases h.2 with ⟨h1, h2⟩ | ⟨g, c, cur, h1, _, _, h4, _⟩
  · simp at h1; omega
  · simp only [Value.slice.injEq] at h1; omega

/-- What a function that gives a list leaves. -/
def GivesL (w : World) (L : List Int) (e : Ending) (w' : World) : Prop :=
  (∃ a cap, e = .returned (.slice a L.length cap) ∧ OwnI w' w.heap.size a L.length cap L) ∧ Below w.heap.size w w'

set_option maxHeartbeats 400000 in
theorem l2row_spec (W n : Nat) (a : Option Addr) (len cap : Nat) (xs : List Int) (w : World) (h : Row w a len xs) (hv : validB W xs = true) (hn : n < len) :
    Calls Try.prog 74 #[.agg #[.int .i64 W, .slice a len cap], .int .i64 n] w fun e w' => e = .returned (.int .i64 (cntI (xs.getD n 0) W)) ∧ Below w.heap.size w w' := by
  have hl := h.1
  have hW := validB_W hv
  have hL := validB_len hv
  have hr := validB_row hv (i := n) (by omega)
  obtain ⟨b, off, rfl, hck⟩ := row_at h hn
  generalize xs.getD n 0 = x at hck hr
  clear h hv
  have hb : b < w.heap.size := block_lt hck
  go_enter Try.func74, Try.ntmps74
  go_wp2_with fail
  go_loop [5, 6] (fun o i => ∃ j : Nat, j ≤ W ∧ i = .int .i64 j ∧ o = .int .i64 (cntI x j)) (fun _ i => W - (intOf i).toNat)
  case atStart => exact ⟨0, Nat.zero_le _, rfl, rfl⟩
  case round =>
    obtain ⟨j, hj, rfl, rfl⟩ := hrel
    have hcn := cnt_bd x j
    have hbi := bit_01 x j
    by_cases hlj : j < W
    · go_wp2_with fail
      refine (bit_any x j _ hr.1 (by omega) (by omega)).mono ?_
      rintro e w2 ⟨rfl, rfl⟩
      go_wp2_with fail
      exact ⟨⟨j + 1, by omega, by go_num, rfl⟩, by simp [intOf]; omega⟩
    · have : j = W := by omega
      subst this
      go_wp2_with fail
      go_ret
      exact ⟨rfl, (Below.refl _ _).alloc (Nat.le_refl _) _⟩

set_option maxHeartbeats 800000 in
theorem rsums_spec (W : Int) (a : Option Addr) (len cap : Nat) (xs : List Int) (w : World) (h : Row w a len xs) (hm : len ≤ 9223372036854775807) :
    Calls Try.prog 52 #[.agg #[.int .i64 W, .slice a len cap]] w (GivesL w (rsOut W xs)) := by
  have hl := h.1
  by_cases hv : validB W xs = true
  case neg =>
    rw [show rsOut W xs = [] from if_neg hv]
    have hv : validB W xs = false := by simpa using hv
    have H := (h.alloc (.cells #[.int .i64 W, .slice a len cap] 29)).alloc (.cells #[] 3)
    have hb0 : Below w.heap.size w ((w.alloc (.cells #[.int .i64 W, .slice a len cap] 29)).alloc (.cells #[] 3)) := ((Below.refl _ _).alloc (Nat.le_refl _) _).alloc (by simp) _
    have ho := own_empty (w.alloc (.cells #[.int .i64 W, .slice a len cap] 29)) w.heap.size (w.heap.size + 1) (by simp) (by omega)
    go_enter Try.func52, Try.ntmps52
    go_wp2_with fail
    go_loop [3, 4] (fun o i => i = .int .i64 0 ∧ o = .slice (some ⟨w.heap.size + 1, 0, none⟩) 0 0) (fun _ i => 0)
    case atStart => exact ⟨rfl, rfl⟩
    case round =>
      obtain ⟨rfl, rfl⟩ := hrel
      by_cases h0 : len = 0
      · subst h0
        go_wp2_with fail
        go_ret
        exact ⟨⟨_, _, rfl, ho⟩, hb0⟩
      · go_wp2_with fail
        refine (valid_spec _ _ _ _ xs _ H hm).mono ?_
        rintro e w1 ⟨rfl, hb⟩
        rw [hv]
        go_wp2_with fail
        go_ret
        exact ⟨⟨_, _, rfl, OwnI.bel ho hb⟩, hb0.trans (hb.mono hb0.size)⟩
  rw [show rsOut W xs = rsL xs W.toNat len by rw [← hl]; exact if_pos hv]
  have hW := validB_W hv
  have hL := validB_len hv
  obtain ⟨W, rfl⟩ := Int.eq_ofNat_of_zero_le (by omega : 0 ≤ W)
  rw [Int.toNat_natCast]
  have hbd : Hid (∀ i, 0 ≤ cntI (xs.getD i 0) W ∧ cntI (xs.getD i 0) W ≤ W) := fun i => cnt_bd (xs.getD i 0) W
  obtain ⟨i0, hi, hz0, hz1, hz2⟩ := info_parts infoInt
  obtain ⟨W0, hW0⟩ : ∃ W0, W0 = (w.alloc (.cells #[.int .i64 W, .slice a len cap] 29)).alloc (.cells #[] 3) := ⟨_, rfl⟩
  have hb0 : Below w.heap.size w W0 := by subst hW0; exact ((Below.refl _ _).alloc (Nat.le_refl _) _).alloc (by simp) _
  have ho : OwnI W0 (w.heap.size + 1) (some ⟨w.heap.size + 1, 0, none⟩) 0 0 [] := by subst hW0; exact own_empty (w.alloc (.cells #[.int .i64 W, .slice a len cap] 29)) (w.heap.size + 1) (w.heap.size + 1) (by simp) (by omega)
  have x0 : W0.cell? ⟨w.heap.size, 0, none⟩ = some (.int .i64 W) := by subst hW0; simp
  have x1 : W0.cell? ⟨w.heap.size, 1, none⟩ = some (.slice a len cap) := by subst hW0; simp
  have H : Row W0 a len xs := by subst hW0; exact (h.alloc _).alloc _
  have hs0 : W0.heap.size = w.heap.size + 2 := by subst hW0; simp
  have hS := Lib.hid hs0
  go_enter Try.func52, Try.ntmps52
  go_wp2_with fail
  rw [← hW0]
  have ho := Lib.hid ho
  have H := Lib.hid H
  have hv := Lib.hid hv
  have h := Lib.hid h
  clear hW0
  go_loopw [3, 4] (fun o i wr => ∃ (k : Nat) (s : Option Addr) (c : Nat), k ≤ len ∧ i = .int .i64 k ∧ o = .slice s k c ∧ Hid (OwnI wr (w.heap.size + 1) s k c (rsL xs W k)) ∧ Hid (Row wr a len xs) ∧ wr.cell? ⟨w.heap.size, 0, none⟩ = some (.int .i64 W) ∧ wr.cell? ⟨w.heap.size, 1, none⟩ = some (.slice a len cap) ∧ Hid (Below w.heap.size w wr)) (fun _ i _ => len - (intOf i).toNat)
  case atStart => exact ⟨0, _, 0, Nat.zero_le _, rfl, rfl, ho, H, x0, x1, hb0⟩
  case round =>
    obtain ⟨k, s, c, hk, rfl, rfl, hO, hR, y0, y1, hB⟩ := hrel
    clear x0 x1
    have hsz : w.heap.size < wr.heap.size := block_lt y0
    by_cases hlt : k < len
    · go_wp2_with fail
      refine (valid_spec _ _ _ _ xs _ hR.out hm).mono ?_
      rintro e w1 ⟨rfl, hb⟩
      rw [hv.out]
      have y0 := kept hb (by omega) y0
      have y1 := kept hb (by omega) y1
      have hO1 := Lib.hid (hO.out.bel hb)
      have hR1 := Lib.hid (hR.out.bel hb)
      have hB1 := Lib.hid (hB.out.trans (hb.mono (by omega)))
      have hsz1 : w.heap.size < w1.heap.size := block_lt y0
      clear hb hO hR hB
      go_wp2_with fail
      refine (l2row_spec W k a len cap xs _ hR1.out hv.out hlt).mono ?_
      rintro e w2 ⟨rfl, hb⟩
      have hb2 := hbd.out k
      have hsn : rsL xs W (k + 1) = rsL xs W k ++ [cntI (xs.getD k 0) W] := rows_snoc _ _
      generalize cntI (xs.getD k 0) W = x at hb2 hsn
      have hsn := Lib.hid hsn
      have y0 := kept hb (by omega) y0
      have y1 := kept hb (by omega) y1
      have hO2 := Lib.hid (hO1.out.bel hb)
      have hR2 := Lib.hid (hR1.out.bel hb)
      have hB2 := Lib.hid (hB1.out.trans (hb.mono (by omega)))
      have hsz2 : w.heap.size < w2.heap.size := block_lt y0
      clear hb hO1 hR1 hB1
      go_wp2_with (at_builtin; refine wpList_append_own _ rfl _ _ 23 rfl (w.heap.size + 1) 3 i0 (.int .i64 0) 1 8 Try.underlying23 hi hz0 hz1 hz2 rfl (by decide) _ k ((rsL xs W k).map (Value.int .i64)) rfl (World.ownsRow.alloc hO2.out _) ⟨w2.heap.size, 0, none⟩ 1 1 [.int .i64 x] rfl rfl ?c1 ?c2 ?c3 ?c4 ?c5 ?_)
      case c1 => intro j u hj; cases j with | zero => simp at hj; subst hj; simp [Addr.add] | succ j => simp at hj
      case c2 => intro u hu; simp at hu; subst hu; rfl
      case c3 => unfold maxLen; omega
      case c4 => omega
      case c5 => simp; omega
      intro v' w3 hown hgr _
      obtain ⟨a', cap', rfl, ho3⟩ := own_of (xs := rsL xs W (k + 1)) (by rw [hsn.out, List.map_append]; exact hown)
      have hfar : ∀ g, (Value.slice s k c).ownBlock = some g → w.heap.size + 1 ≤ g := fun g hg => by
        rcases hO2.out.cases with ⟨rfl, _, _⟩ | ⟨g', rfl, h2, _⟩
        · cases hg
        · simp [Value.ownBlock] at hg; omega
      have hb3 : Below (w.heap.size + 1) w2 w3 := ((Below.refl _ _).alloc (by omega) _).grown hgr (by simp; omega) hfar
      have y0 := kept hb3 (by simp) y0
      have y1 := kept hb3 (by simp) y1
      have hB3 := Lib.hid (hB2.out.trans (hb3.mono (by omega)))
      have hR3 : Hid (Row w3 a len xs) := h.out.bel hB3.out
      have ho3 := Lib.hid ho3
      clear hown hgr hfar hb3 hO2 hR2 hB2
      go_wp2_with fail
      exact ⟨⟨k + 1, a', cap', by omega, by go_num, rfl, ho3, hR3, y0, y1, hB3⟩, by simp [intOf]; omega⟩
    · have : k = len := by omega
      subst this
      go_wp2_with fail
      go_ret
      exact ⟨⟨s, c, by rw [rs_len]; rfl, by rw [rs_len]; exact hO.out.mono (by omega)⟩, hB.out⟩
end Go.Proofs.Yteadibgjieimkaa

