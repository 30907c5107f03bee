/-
  The contracts of the functions that give an image: copies, cells that are put, and the four functions of chapter 1.
-/
import Derived.Test.YteadibgjieimkaaD
import Derived.Laws.AppendOwn
import Derived.Deep.AppendLies
import Derived.Deep.RegionHeld3
import Derived.StillTailTactics
namespace Go.Proofs.Yteadibgjieimkaa
set_option maxRecDepth 100000
open Go.RowKit

theorem World.cell?_alloc_some {w : World} {a : Addr} {v : Value} {o : Obj} (h : w.cell? a = some v) : (w.alloc o).cell? a = some v := (World.cell?_alloc_lt _ _ _ (block_lt h)).trans h
theorem own_of {w : World} {B n : Nat} {v : Value} {xs : List Int} (h : w.ownsRow B 3 1 v n (xs.map (Value.int .i64))) : ∃ a cap, v = .slice a n cap ∧ OwnI w B a n cap xs := by
  have h' := h
  rcases h'.2 with ⟨rfl, rfl⟩ | ⟨g, c, cur, rfl, _⟩
  · exact ⟨none, 0, rfl, h⟩
  · exact ⟨_, c, rfl, h⟩
theorem own_empty (w : World) (B n : Nat) (hn : n = w.heap.size) (hB : B ≤ n) : (w.alloc (.cells #[] 3)).ownsRow B 3 1 (.slice (some ⟨n, 0, none⟩) 0 0) 0 [] := by
  subst hn; exact World.ownsRow_lit w #[] 0 hB (by decide) rfl
theorem grow2 {W w1 : World} {p0 p1 : Addr} {u0 u1 : Value} {k : Nat} (hg : W.grownBy w1 (some k)) (h : W.cell? p0 = some u0 ∧ W.cell? p1 = some u1) (n0 : p0.block ≠ k) (n1 : p1.block ≠ k) :
    w1.cell? p0 = some u0 ∧ w1.cell? p1 = some u1 := ⟨hg.cell h.1 (by simpa using n0), hg.cell h.2 (by simpa using n1)⟩
theorem OwnI.up {w : World} {B B' g len cap : Nat} {xs : List Int} (h : OwnI w B (some ⟨g, 0, none⟩) len cap xs) (hg : B' ≤ g) : OwnI w B' (some ⟨g, 0, none⟩) len cap xs := by
  obtain ⟨h1, h2⟩ := h
  refine ⟨h1, ?_⟩
  rcases h2 with ⟨h2, _⟩ | ⟨g', c, cur, e, _, r⟩
  · simp at h2
  · have e' := e
    simp only [Value.slice.injEq, Option.some.injEq, Addr.mk.injEq, and_true, true_and] at e'
    obtain ⟨rfl, rfl⟩ := e'
    exact .inr ⟨g, _, cur, rfl, hg, r⟩
theorem st {P : Program} {f : FuncId} {args : Array Value} {w : World} {v : Value} (h : Calls P f args w fun e w' => e = .returned v ∧ w = w') : Calls P f args w fun e w' => e = .returned v ∧ w' = w := h.mono fun _ _ ⟨a, b⟩ => ⟨a, b.symm⟩
theorem region_tail {P : Program} {id : Nat} {Q : Exit → Act → World → Prop} {a : Act} {w : World} {l : List Oper} (n : Nat) (hm : P.follows .mixedOrders = true) (hB : Region.lexTailB .any l.toArray n = true) (W1 : World) (hW : w.drew = W1)
    (h : wpStill P l.toArray W1 (fun a' => wpList P l.toArray Q (l.drop n) a' W1) (l.take n) a) : (Code.region id l.toArray true).wp P Q a w := by
  subst hW; exact wp_region_still_tail n hm hB h
theorem news_of {w : World} {b off len : Nat} {xs : List Int} (hl : xs.length = len) (h : ∀ i, i < len → w.cell? ⟨b, off + i, none⟩ = some (.int .i64 (xs.getD i 0))) :
    ∀ j u, (xs.map (Value.int .i64))[j]? = some u → w.cell? ((⟨b, off, none⟩ : Addr).add j) = some u := by
  intro j u hj
  rw [List.getElem?_map] at hj
  obtain ⟨y, hy, rfl⟩ := Option.map_eq_some_iff.1 hj
  have hjl := (List.getElem?_eq_some_iff.1 hy).1
  have := h j (by omega)
  rw [getD_elem hjl, (List.getElem?_eq_some_iff.1 hy).2] at this
  by_cases e : j = 0
  · subst e; simpa [Addr.add] using this
  · simpa [Addr.add, e] using this

set_option maxHeartbeats 400000 in
theorem clone_any (b off len cap : Nat) (xs : List Int) (w : World) (hl : xs.length = len) (h : ∀ i, i < len → w.cell? ⟨b, off + i, none⟩ = some (.int .i64 (xs.getD i 0))) (hm : len ≤ 1048576) (h1 : 1 ≤ len) :
    Calls Try.prog 76 #[.slice (some ⟨b, off, none⟩) len cap] w fun e w' => (∃ a cap', e = .returned (.slice a len cap') ∧ OwnI w' w.heap.size a len cap' xs) ∧ Below w.heap.size w w' := by
  obtain ⟨i0, hi, hz0, hz1, hz2⟩ := info_parts infoInt
  have hn := Lib.hid (news_of hl h)
  clear h
  have hnil := fun wx => Lib.run_eql_slice_nil (P := Try.prog) wx 23 3 (some ⟨b, off, none⟩) len cap 0 0 Try.underlying23
  go_enter Try.func76, Try.ntmps76
  go_wp2_with (at_builtin; refine wpList_append_own _ rfl _ _ 23 rfl w.heap.size 3 i0 (.int .i64 0) 1 8 Try.underlying23 hi hz0 hz1 hz2 rfl (by decide) _ 0 [] rfl (World.ownsRow_lit w #[] 0 (Nat.le_refl _) (by decide) rfl) ⟨b, off, none⟩ len cap (xs.map (Value.int .i64)) rfl ?c1 ?c2 ?c3 ?c4 ?c5 ?c6 ?_)
  case c1 => simp [hl]
  case c2 => exact fun j u hj => World.cell?_alloc_some (hn.out j u hj)
  case c3 => exact ints_oneCell _ _
  case c4 => unfold maxLen; omega
  case c5 => omega
  case c6 => simp
  intro v' w1 hown hgr hnil'
  obtain ⟨a, c, rfl, ho⟩ := own_of (by simpa using hown)
  have bb : Below w.heap.size w w1 := ((Below.refl _ _).alloc (Nat.le_refl _) _).grown hgr (by simp) (fun k hk => by simp [Value.ownBlock] at hk; omega)
  have ho := Lib.hid ho
  clear hown hgr hnil'
  go_wp2
  go_ret
  exact ⟨⟨a, c, rfl, ho.out⟩, bb⟩

set_option maxHeartbeats 400000 in
/-- 'l1Copy' of an image that has rows. -/
theorem copy_spec (W : Int) (b off len cap : Nat) (xs : List Int) (w : World) (hl : xs.length = len) (h : ∀ i, i < len → w.cell? ⟨b, off + i, none⟩ = some (.int .i64 (xs.getD i 0))) (hm : len ≤ 1048576) (h1 : 1 ≤ len) :
    Calls Try.prog 70 #[.agg #[.int .i64 W, .slice (some ⟨b, off, none⟩) len cap]] w fun e w' => (∃ a cap', e = .returned (.agg #[.int .i64 W, .slice a len cap']) ∧ OwnI w' w.heap.size a len cap' xs) ∧ Below w.heap.size w w' := by
  obtain ⟨i0, hi, hz0, hz1, hz2⟩ := info_parts infoInt
  have hn := Lib.hid (news_of hl h)
  clear h
  go_enter Try.func70, Try.ntmps70
  go_wp2_with (fail)
  go_region_held3 (fun W' => W'.cell? ⟨w.heap.size, 0, none⟩ = some (.int .i64 W) ∧ W'.cell? ⟨w.heap.size, 1, none⟩ = some (.slice (some ⟨b, off, none⟩) len cap))
    (first | go_keep | exact grow2 hgrow (by assumption) (by simp; omega) (by simp; omega))
    ((refine step_append_lies _ (by rfl) _ _ _ (by rfl) (w.heap.size + 2) 3 i0 _ 1 8 Try.underlying23 hi hz0 hz1 hz2 rfl (by omega) (.slice (some ⟨w.heap.size + 1 + 1, 0, none⟩) 0 0) 0 [] (by rfl) ((own_empty _ _ _ (by simp) (by omega)).drew)
        ⟨b, off, none⟩ len cap (xs.map (Value.int .i64)) (by rfl) (by simp [hl]) (by intro j u hj; rw [World.cell?_drew]; exact World.cell?_alloc_some (World.cell?_alloc_some (World.cell?_alloc_some (hn.out j u hj)))) (ints_oneCell _ _) (by omega) (by unfold maxLen; omega) (by omega) (by simp) _ rfl ?_; intro gg cap1 w1 hown1 hgrow hat hlt; have z0 : w1.cell? ⟨w.heap.size + 1, 0, none⟩ = some (.int .i64 0) := hgrow.cell (by go_simp) (by simp [Value.ownBlock]); have z1 : w1.cell? ⟨w.heap.size + 1, 1, none⟩ = some (.slice none 0 0) := hgrow.cell (by go_simp) (by simp [Value.ownBlock]); have zf : ∀ o, w1.frozen? ⟨w.heap.size + 1, o, none⟩ = false := fun o => (World.frozen?_of_block (hgrow.block _ (by simp) (by simp [Value.ownBlock]))).trans (by go_simp)))
  have ho : OwnI w1 (w.heap.size + 2) (some ⟨gg, 0, none⟩) len cap1 xs := by
    have := hown1; rw [Nat.zero_add, List.nil_append] at this; exact this
  have bb : Below w.heap.size w w1 := ((((Below.refl _ _).alloc (Nat.le_refl _) _).alloc (by simp) _).alloc (by simp; omega) _).drew.grown hgrow (by simp; omega) (fun k hk => by simp [Value.ownBlock] at hk; omega)
  have ho := Lib.hid ho
  clear hown1 hat hgrow
  go_wp2
  refine bodyPost_ret (v := .agg #[.int .i64 W, .slice (some ⟨gg, 0, none⟩) len cap1]) (by simp [results, Try.results70, go_sem, z0, z1]) rfl ?_
  exact ⟨⟨_, cap1, rfl, ((ho.out.store (by simp) _).store (by simp) _).mono (by omega)⟩, (bb.setCell (by simp) _).setCell (by simp) _⟩

/-- 'l1Blank'. -/
theorem blank_spec (W : Int) (len : Nat) (w : World) (hm : len ≤ 1048576) :
    Calls Try.prog 87 #[.int .i64 len, .int .i64 W] w fun e w' => (∃ g, e = .returned (.agg #[.int .i64 W, .slice (some ⟨g, 0, none⟩) len len]) ∧ w.heap.size ≤ g ∧ OwnI w' w.heap.size (some ⟨g, 0, none⟩) len len (List.replicate len 0)) ∧ Below w.heap.size w w' := by
  obtain ⟨i0, hi, hz0, hz1, hz2⟩ := info_parts infoInt
  go_enter Try.func87, Try.ntmps87
  go_wp2_with ((refine wpList_make_full _ rfl _ _ 23 rfl w.heap.size 3 i0 (.int .i64 0) 1 Try.underlying23 hi hz0 hz1 .i64 .i64 len len len rfl rfl rfl rfl ?_ ?_ ?_ ?_))
  · rw [hz2]; omega
  · unfold maxLen; omega
  · simp
  intro w1 ho hg
  have ho0 : OwnI w1 w.heap.size (some ⟨w.heap.size + 1, 0, none⟩) len len (List.replicate len 0) := by
    unfold OwnI; simpa [toList_madeCells_one, List.map_replicate] using ho
  have z0 : w1.cell? ⟨w.heap.size, 0, none⟩ = some (.int .i64 0) := hg.cell (by go_simp) (by simp)
  have z1 : w1.cell? ⟨w.heap.size, 1, none⟩ = some (.slice none 0 0) := hg.cell (by go_simp) (by simp)
  have zf : ∀ o, w1.frozen? ⟨w.heap.size, o, none⟩ = false := fun o => (World.frozen?_of_block (hg.block _ (by simp) (by simp))).trans (by go_simp)
  have bb : Below w.heap.size w w1 := ((Below.refl _ _).alloc (Nat.le_refl _) _).grown hg (by simp) (fun k hk => by cases hk)
  have ho1 : OwnI w1 (w.heap.size + 1) (some ⟨w.heap.size + 1, 0, none⟩) len len (List.replicate len 0) := ho0.up (Nat.le_refl _)
  have ho1 := Lib.hid ho1
  clear ho hg ho0
  go_wp2
  refine bodyPost_ret (v := .agg #[.int .i64 W, .slice (some ⟨w.heap.size + 1, 0, none⟩) len len]) (by simp [results, Try.results87, go_sem, z0, z1]) rfl ?_
  exact ⟨⟨_, rfl, by omega, ((ho1.out.store (by simp) _).store (by simp) _).mono (by omega)⟩, (bb.setCell (by simp) _).setCell (by simp) _⟩

/-- A cell of a row, put. -/
def putI (x : Int) (j : Nat) (set : Bool) : Int := x - bitI x j * pw j + (if set = true then pw j else 0)

theorem putI_false (x : Int) (j : Nat) : putI x j false = x - bitI x j * pw j := by simp [putI]
theorem putI_true (x : Int) (j : Nat) : putI x j true = x - bitI x j * pw j + pw j := by simp [putI]

set_option maxRecDepth 100000 in
set_option maxHeartbeats 800000 in
/-- 'l1Put' in a row of the caller's own. -/
theorem put_spec (W : Int) (B g len cap : Nat) (xs : List Int) (i j : Nat) (set : Bool) (w : World) (h : OwnI w B (some ⟨g, 0, none⟩) len cap xs) (hi : i < len) (hj : j ≤ 6) (h0 : 0 ≤ xs.getD i 0) (h1 : xs.getD i 0 ≤ 63) :
    Calls Try.prog 86 #[.agg #[.int .i64 W, .slice (some ⟨g, 0, none⟩) len cap], .int .i64 i, .int .i64 j, .bool set] w fun e w' => e = .returned (.tuple #[]) ∧ w.grownBy w' (some g) ∧ OwnI w' B (some ⟨g, 0, none⟩) len cap (xs.set i (putI (xs.getD i 0) j set)) := by
  have hl := h.len
  have hd : w.cell? ⟨g, i, none⟩ = some (.int .i64 (xs.getD i 0)) := by
    rw [World.ownsRow.cellAt h i (by omega), List.getElem?_map, List.getElem?_eq_getElem (by omega), getD_elem (by omega)]; rfl
  have hf := h.frozen i
  generalize hx : xs.getD i 0 = x at *
  have hg : g < w.heap.size := block_lt hd
  have hp := pw_pos j
  have hp2 := pw_le j 6 hj
  have hp6 : pw 6 = 64 := by decide
  have hb := bit_01 x j
  have hmul : 0 ≤ bitI x j * pw j ∧ bitI x j * pw j ≤ 64 := by
    rcases (show bitI x j = 0 ∨ bitI x j = 1 by omega) with e | e <;> rw [e] <;> omega
  have ew1 : wrap64 (bitI x j * pw j) = bitI x j * pw j := IntWalk.wrap64_in _ ⟨by omega, by omega⟩
  have ew2 : wrap64 (x - bitI x j * pw j) = x - bitI x j * pw j := IntWalk.wrap64_in _ ⟨by omega, by omega⟩
  have ew3 : wrap64 (x - bitI x j * pw j + pw j) = x - bitI x j * pw j + pw j := IntWalk.wrap64_in _ ⟨by omega, by omega⟩
  have ev1 : IntKind.i64.wrap (bitI x j * pw j) = bitI x j * pw j := IntWalk.i64_in _ ⟨by omega, by omega⟩
  have ev2 : IntKind.i64.wrap (x - bitI x j * pw j) = x - bitI x j * pw j := IntWalk.i64_in _ ⟨by omega, by omega⟩
  have ev3 : IntKind.i64.wrap (x - bitI x j * pw j + pw j) = x - bitI x j * pw j + pw j := IntWalk.i64_in _ ⟨by omega, by omega⟩
  obtain ⟨W1, hW1⟩ : ∃ W1, (w.alloc (.cells #[.int .i64 W, .slice (some ⟨g, 0, none⟩) len cap] 29)).drew = W1 := ⟨_, rfl⟩
  have k1 : W1.cell? ⟨w.heap.size, 1, none⟩ = some (.slice (some ⟨g, 0, none⟩) len cap) := by rw [← hW1]; simp
  have k2 : W1.cell? ⟨g, i, none⟩ = some (.int .i64 x) := by rw [← hW1, World.cell?_drew, World.cell?_alloc_lt _ _ _ hg]; exact hd
  have hB : Below w.heap.size w W1 := by rw [← hW1]; exact ((Below.refl _ _).alloc (Nat.le_refl _) _).drew
  have k3 : W1.frozen? ⟨g, i, none⟩ = false := (hB.frozen (p := ⟨g, i, none⟩) hg).trans hf
  have hO := h.bel hB
  have hgr : w.grownBy W1 (some g) := below_grown hB _
  have hs := hO.set i (x - bitI x j * pw j)
  have hgr2 := grown_set (j := i) (v := .int .i64 (x - bitI x j * pw j)) hgr
  have hn : g ≠ w.heap.size := by omega
  cases set with
  | false =>
    rw [putI_false]
    have hs := Lib.hid hs
    have hgr2 := Lib.hid hgr2
    clear h hO hB hmul hgr ew3 ev3 hn
    go_enter Try.func86, Try.ntmps86
    go_wp2_with fail
    refine region_tail 20 (by kernel_rfl) (by kernel_rfl) W1 hW1 ?_
    simp only [List.take_succ_cons, List.take_zero, List.drop_succ_cons, List.drop_zero]
    clear hW1 hd hf hx
    repeat (first | still_step | still_call (st (bit_any _ _ _ (by omega) (by omega) (by omega))) | still_call (st (power_any _ _ (by omega))))
    refine wpStill_nil ?_
    go_wp2_with fail
    go_end0
    exact ⟨rfl, hgr2.out, hs.out⟩
  | true =>
    rw [putI_true]
    obtain ⟨W2, hW2⟩ : ∃ W2, (W1.setCell ⟨g, i, none⟩ (.int .i64 (x - bitI x j * pw j))).drew = W2 := ⟨_, rfl⟩
    have m1 : W2.cell? ⟨w.heap.size, 1, none⟩ = some (.slice (some ⟨g, 0, none⟩) len cap) := by
      rw [← hW2, World.cell?_drew, World.cell?_setCell_other _ _ _ _ (by simp; try exact hn)]; exact k1
    have m2 : W2.cell? ⟨g, i, none⟩ = some (.int .i64 (x - bitI x j * pw j)) := by rw [← hW2, World.cell?_drew]; exact World.cell?_setCell_same _ _ _ k2
    have hO2 : OwnI W2 B (some ⟨g, 0, none⟩) len cap (xs.set i (x - bitI x j * pw j)) := by rw [← hW2]; exact hs.bel ((Below.refl _ _).drew)
    have m3 := hO2.frozen i
    have hgr3 : w.grownBy W2 (some g) := by rw [← hW2]; exact ⟨hgr2.os, hgr2.tape, hgr2.output, hgr2.size, hgr2.block⟩
    have hs3 := hO2.set i (x - bitI x j * pw j + pw j)
    rw [List.set_set] at hs3
    have hgr4 := grown_set (j := i) (v := .int .i64 (x - bitI x j * pw j + pw j)) hgr3
    have hs3 := Lib.hid hs3
    have hgr4 := Lib.hid hgr4
    clear h hO hB hmul hgr hs hgr2 hO2 hgr3 hn
    go_enter Try.func86, Try.ntmps86
    go_wp2_with fail
    refine region_tail 20 (by kernel_rfl) (by kernel_rfl) W1 hW1 ?_
    simp only [List.take_succ_cons, List.take_zero, List.drop_succ_cons, List.drop_zero]
    clear hW1 hd hf hx
    repeat (first | still_step | still_call (st (bit_any _ _ _ (by omega) (by omega) (by omega))) | still_call (st (power_any _ _ (by omega))))
    refine wpStill_nil ?_
    go_wp2_with fail
    refine region_tail 12 (by kernel_rfl) (by kernel_rfl) W2 hW2 ?_
    simp only [List.take_succ_cons, List.take_zero, List.drop_succ_cons, List.drop_zero]
    clear hW2 k1 k2 k3
    repeat (first | still_step | still_call (st (power_any _ _ (by omega))))
    refine wpStill_nil ?_
    go_wp2_with fail
    go_end0
    exact ⟨rfl, hgr4.out, hs3.out⟩
end Go.Proofs.Yteadibgjieimkaa

