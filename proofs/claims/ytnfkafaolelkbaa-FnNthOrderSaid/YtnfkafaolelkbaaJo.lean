/-
  Six numbers in an array: the contracts of withRow and columnSumsOf.
-/
import Derived.Test.YtnfkafaolelkbaaJj
import Derived.Test.YtnfkafaolelkbaaJl
import Derived.Test.YtnfkafaolelkbaaA
import Derived.Laws.CopyOwn
namespace Go.Proofs.Ytnfkafaolelkbaa
set_option maxRecDepth 100000
open Go.RowKit

/-- An array of six numbers in a block. -/
structure Arr (w : World) (b : Nat) (L : List Int) : Prop where
  len : L.length = 6
  c : ∀ i, i < 6 → w.cell? ⟨b, i, none⟩ = some (.int .i64 (L.getD i 0))
  fz : ∀ o, w.frozen? ⟨b, o, none⟩ = false
theorem Arr.lt {w : World} {b : Nat} {L : List Int} (h : Arr w b L) : b < w.heap.size := block_lt (h.c 0 (by omega))
theorem Arr.bel {w w' : World} {b : Nat} {L : List Int} (h : Arr w b L) (hb : Below w.heap.size w w') : Arr w' b L :=
  ⟨h.len, fun i hi => kept hb (block_lt (h.c i hi)) (h.c i hi), fun o => (hb.frozen (p := ⟨b, o, none⟩) h.lt).trans (h.fz o)⟩
theorem Arr.bel' {w w' : World} {b B : Nat} {L : List Int} (h : Arr w b L) (hb : Below B w w') (hB : b < B) : Arr w' b L :=
  ⟨h.len, fun i hi => kept hb hB (h.c i hi), fun o => (hb.frozen (p := ⟨b, o, none⟩) hB).trans (h.fz o)⟩
theorem Arr.grown {w w' : World} {b : Nat} {row : Option Nat} {L : List Int} (h : Arr w b L) (hg : w.grownBy w' row) (hne : some b ≠ row) : Arr w' b L :=
  ⟨h.len, fun i hi => hg.cell (h.c i hi) hne, fun o => (World.frozen?_of_block (hg.block b h.lt hne)).trans (h.fz o)⟩
theorem Arr.set {w : World} {b : Nat} {L : List Int} (h : Arr w b L) {j : Nat} (hj : j < 6) (v : Int) : Arr (w.setCell ⟨b, j, none⟩ (.int .i64 v)) b (L.set j v) := by
  refine ⟨by simpa using h.len, fun i hi => ?_, fun o => by rw [World.frozen?_setCell]; exact h.fz o⟩
  have hl := h.len
  by_cases e : i = j
  · subst e
    rw [World.cell?_setCell_same _ _ _ (h.c i hi)]
    simp [hl, hi]
  · rw [World.cell?_setCell_other _ _ _ _ (by intro e2; exact e (by injection e2 with _ e3; exact e3.symm)), h.c i hi]
    simp [List.getD_eq_getElem?_getD, List.getElem?_set_ne (fun e2 : j = i => e e2.symm)]
theorem agg_six {L : List Int} (h : L.length = 6) : aggV L = .agg #[.int .i64 (L.getD 0 0), .int .i64 (L.getD 1 0), .int .i64 (L.getD 2 0), .int .i64 (L.getD 3 0), .int .i64 (L.getD 4 0), .int .i64 (L.getD 5 0)] := by
  match L, h with
  | [a0, a1, a2, a3, a4, a5], _ => rfl
/-- The first cells have one more at each bit. -/
def addK (k : List Int) (m : Int) (j : Nat) : List Int := rowsL (fun q => k.getD q 0 + if q < j then bitI m q else 0) 6
theorem addk_zero {k : List Int} (m : Int) (h : k.length = 6) : addK k m 0 = k :=
  six_ext (rows_len ..) h fun j hj => by rw [show (addK k m 0).getD j 0 = _ from rows_get _ hj]; simp
theorem addk_all (k : List Int) (m : Int) : addK k m 6 = addV k m := rows_ext fun i hi => by rw [if_pos hi]
theorem addk_get (k : List Int) (m : Int) (j : Nat) (hj : j < 6) : (addK k m j).getD j 0 = k.getD j 0 := by
  rw [show (addK k m j).getD j 0 = _ from rows_get _ hj]; simp
theorem addk_set (k : List Int) (m : Int) {j : Nat} (hj : j < 6) : (addK k m j).set j (k.getD j 0 + bitI m j) = addK k m (j + 1) := by
  have hl : (addK k m j).length = 6 := rows_len ..
  refine six_ext (by rw [List.length_set]; exact hl) (rows_len ..) fun i hi => ?_
  rw [show (addK k m (j + 1)).getD i 0 = _ from rows_get _ hi]
  by_cases e : i = j
  · subst e; simp [hl, hi]
  · have h1 : ((addK k m j).set j (k.getD j 0 + bitI m j)).getD i 0 = (addK k m j).getD i 0 := by
      simp [List.getD_eq_getElem?_getD, List.getElem?_set_ne (fun e2 : j = i => e e2.symm)]
    rw [h1, show (addK k m j).getD i 0 = _ from rows_get _ hi]
    by_cases e2 : i < j
    · rw [if_pos e2, if_pos (by omega)]
    · rw [if_neg e2, if_neg (by omega)]

set_option maxHeartbeats 1600000 in
theorem withRow_any (a0 a1 a2 a3 a4 a5 m : Int) (w : World) (hm0 : 0 ≤ m) (hm : m ≤ 63) (hk : ∀ j, j < 6 → 0 ≤ [a0, a1, a2, a3, a4, a5].getD j 0 ∧ [a0, a1, a2, a3, a4, a5].getD j 0 ≤ 100) :
    Calls Try.prog 89 #[.agg #[.int .i64 a0, .int .i64 a1, .int .i64 a2, .int .i64 a3, .int .i64 a4, .int .i64 a5], .int .i64 m] w fun e w' => e = .returned (aggV (addV [a0, a1, a2, a3, a4, a5] m)) ∧ Below w.heap.size w w' := by
  obtain ⟨k, hkk⟩ : ∃ k, [a0, a1, a2, a3, a4, a5] = k := ⟨_, rfl⟩
  obtain ⟨W0, hW0⟩ : ∃ W0, W0 = (w.alloc (.cells #[.int .i64 a0, .int .i64 a1, .int .i64 a2, .int .i64 a3, .int .i64 a4, .int .i64 a5] 88)).alloc (.cells #[.int .i64 0, .int .i64 0, .int .i64 0, .int .i64 0, .int .i64 0, .int .i64 0] 88) := ⟨_, rfl⟩
  have bb : Hid (Below w.heap.size w W0) := by subst hW0; exact ((Below.refl _ _).alloc (Nat.le_refl _) _).alloc (by simp) _
  have hl : k.length = 6 := by rw [← hkk]; rfl
  have A : Hid (Arr W0 w.heap.size (addK k m 0)) := by
    rw [addk_zero m hl]
    subst hW0; subst hkk
    refine ⟨rfl, fun i hi => ?_, fun o => by go_simp⟩
    match i, hi with
    | 0, _ => go_simp
    | 1, _ => go_simp
    | 2, _ => go_simp
    | 3, _ => go_simp
    | 4, _ => go_simp
    | 5, _ => go_simp
  have Z : Hid (Arr W0 (w.heap.size + 1) zerV) := by
    subst hW0
    refine ⟨zer_len, fun i hi => ?_, fun o => by go_simp⟩
    match i, hi with
    | 0, _ => go_simp; rfl
    | 1, _ => go_simp; rfl
    | 2, _ => go_simp; rfl
    | 3, _ => go_simp; rfl
    | 4, _ => go_simp; rfl
    | 5, _ => go_simp; rfl
  rw [hkk] at hk ⊢
  have hset := Lib.hid (fun j (hj : j < 6) => addk_set k m hj)
  have hget := Lib.hid (fun j (hj : j < 6) => addk_get k m j hj)
  have hsb := Lib.hid (fun j => shr_bit (j := j) hm0 hm)
  have hb1 := Lib.hid (fun j => bit_01 m j)
  replace hk := Lib.hid hk
  clear hkk hl
  go_enter Try.func89, Try.ntmps89
  go_upto_region 1 with fail
  rw [← hW0]
  clear hW0
  go_wp2_with fail
  go_loopw [6] (fun i wr => ∃ j : Nat, j ≤ 6 ∧ i = .int .i64 j ∧ Hid (Arr wr w.heap.size (addK k m j)) ∧ Hid (Arr wr (w.heap.size + 1) zerV) ∧ Hid (Below w.heap.size w wr)) (fun i _ => 6 - (intOf i).toNat)
  case atStart => exact ⟨0, by omega, rfl, A, Z, bb⟩
  case round =>
    clear A Z bb
    obtain ⟨j, hj, rfl, A, Z, bb⟩ := hrel
    obtain ⟨wo, rfl⟩ : ∃ wo : World, wo = wr := ⟨_, rfl⟩
    by_cases hlt : j < 6
    · have hs := hset.out j hlt
      obtain ⟨W2, hW2⟩ : ∃ W2, wo.drew = W2 := ⟨_, rfl⟩
      have hb2 : Below wo.heap.size wo W2 := by rw [← hW2]; exact (Below.refl _ _).drew
      have A2 := A.out.bel hb2
      have hc := A2.c j hlt
      have hf := A2.fz
      rw [hget.out j hlt] at hc
      have hkj := hk.out j hlt
      have hb := hb1.out j
      have hsh := hsb.out j
      obtain ⟨v, hv⟩ : ∃ v, k.getD j 0 = v := ⟨_, rfl⟩
      obtain ⟨u, hu⟩ : ∃ u, bitI m j = u := ⟨_, rfl⟩
      rw [hv] at hc hkj hs
      rw [hu] at hb hsh hs
      have hA := A2.set hlt (v + u)
      rw [hs] at hA
      have hZ := (Z.out.bel hb2).grown (grown_set (g := w.heap.size) (j := j) (v := .int .i64 (v + u)) (World.grownBy.refl _ _)) (by simp)
      have hB := (bb.out.trans (hb2.mono bb.out.size)).setCell (show w.heap.size ≤ (⟨w.heap.size, j, none⟩ : Addr).block from Nat.le_refl _) (.int .i64 (v + u))
      replace hA := Lib.hid hA
      replace hZ := Lib.hid hZ
      replace hB := Lib.hid hB
      clear A2 hb2 A Z bb
      replace hs := Lib.hid hs
      replace hv := Lib.hid hv
      replace hu := Lib.hid hu
      have hw1 : IntKind.i64.wrap (v + u) = v + u := IntWalk.i64_in _ ⟨by omega, by omega⟩
      go_wp2_with fail
      refine region_tail 9 (by kernel_rfl) (by kernel_rfl) W2 hW2 ?_
      simp only [List.take_succ_cons, List.take_zero, List.drop_succ_cons, List.drop_zero]
      clear hW2
      repeat still_step
      refine wpStill_nil ?_
      go_wp2_with fail
      exact ⟨⟨j + 1, by omega, by go_num, hA, hZ, hB⟩, by simp [intOf]; omega⟩
    · obtain rfl : j = 6 := by omega
      rw [addk_all] at A
      have ha := agg_six A.out.len
      have c0 := A.out.c 0 (by omega)
      have c1 := A.out.c 1 (by omega)
      have c2 := A.out.c 2 (by omega)
      have c3 := A.out.c 3 (by omega)
      have c4 := A.out.c 4 (by omega)
      have c5 := A.out.c 5 (by omega)
      have z0 := Z.out.c 0 (by omega)
      have z1 := Z.out.c 1 (by omega)
      have z2 := Z.out.c 2 (by omega)
      have z3 := Z.out.c 3 (by omega)
      have z4 := Z.out.c 4 (by omega)
      have z5 := Z.out.c 5 (by omega)
      have zf := Z.out.fz
      replace ha := Lib.hid ha
      go_wp2_with fail
      refine bodyPost_ret (v := .agg #[.int .i64 ((addV k m).getD 0 0), .int .i64 ((addV k m).getD 1 0), .int .i64 ((addV k m).getD 2 0), .int .i64 ((addV k m).getD 3 0), .int .i64 ((addV k m).getD 4 0), .int .i64 ((addV k m).getD 5 0)]) (by simp [results, Try.results89, go_sem, z0, z1, z2, z3, z4, z5]) rfl ?_
      exact ⟨by rw [ha.out], (((((bb.out.setCell (by simp) _).setCell (by simp) _).setCell (by simp) _).setCell (by simp) _).setCell (by simp) _).setCell (by simp) _⟩
theorem Arr.block {w : World} {g : Nat} {t : TypeId} {L : List Int} (h : w.heap[g]? = some (.cells (L.map (Value.int .i64)).toArray t (0, 0))) (hl : L.length = 6) : Arr w g L :=
  ⟨hl, fun i hi => by simp [World.cell?, h, hl, hi], fun o => by simp [World.frozen?, h]⟩
theorem pad_list {cols : List Int} {m : Nat} (hl : cols.length = m) (h6 : m ≤ 6) : splice ((List.replicate 6 (0 : Int)).map (Value.int .i64)) 0 (cols.map (Value.int .i64)) = (padL cols).map (Value.int .i64) := by
  have e : (List.replicate 6 (0 : Int)).take 0 ++ cols ++ (List.replicate 6 (0 : Int)).drop (0 + cols.length) = padL cols := by
    refine six_ext (by simp; omega) (pad_len _) fun j hj => ?_
    rw [pad_get _ hj]
    by_cases h : j < cols.length
    · simp [List.getD_eq_getElem?_getD, List.getElem?_append_left h]
    · simp only [List.take_zero, List.nil_append, List.getD_eq_getElem?_getD]
      rw [List.getElem?_append_right (by omega), List.getElem?_eq_none (by omega : cols.length ≤ j)]
      have h2 : cols.length + (j - cols.length) = j := by omega
      simp only [Nat.zero_add, List.getElem?_drop, h2, List.getElem?_replicate]
      rw [if_pos hj]; rfl
  rw [← e]
  simp [splice]

set_option maxHeartbeats 1600000 in
theorem colSums_any (b : Option Addr) (m cb : Nat) (cols : List Int) (w : World) (h : Row w b m cols) (h1 : 1 ≤ m) (h6 : m ≤ 6) :
    Calls Try.prog 90 #[.slice b m cb] w fun e w' => e = .returned (aggV (padL cols)) ∧ Below w.heap.size w w' := by
  have hl := h.1
  obtain ⟨W0, hW0⟩ : ∃ W0, W0 = (w.alloc (.cells #[.int .i64 0, .int .i64 0, .int .i64 0, .int .i64 0, .int .i64 0, .int .i64 0] 88)).alloc (.cells #[.int .i64 0, .int .i64 0, .int .i64 0, .int .i64 0, .int .i64 0, .int .i64 0] 88) := ⟨_, rfl⟩
  have bb : Hid (Below w.heap.size w W0) := by subst hW0; exact ((Below.refl _ _).alloc (Nat.le_refl _) _).alloc (by simp) _
  have hg : Hid (W0.heap[w.heap.size + 1]? = some (.cells ((List.replicate 6 (0 : Int)).map (Value.int .i64)).toArray 88 (0, 0))) := by
    subst hW0
    have := (MapKept.heap_alloc (w.alloc (.cells #[.int .i64 0, .int .i64 0, .int .i64 0, .int .i64 0, .int .i64 0, .int .i64 0] 88)) (.cells #[.int .i64 0, .int .i64 0, .int .i64 0, .int .i64 0, .int .i64 0, .int .i64 0] 88)).1
    exact Lib.hid (by simpa using this)
  have Z : Arr W0 w.heap.size zerV := by
    subst hW0
    refine ⟨zer_len, fun i hi => ?_, fun o => by go_simp⟩
    match i, hi with
    | 0, _ => go_simp; rfl
    | 1, _ => go_simp; rfl
    | 2, _ => go_simp; rfl
    | 3, _ => go_simp; rfl
    | 4, _ => go_simp; rfl
    | 5, _ => go_simp; rfl
  replace Z := Lib.hid Z
  have hR := Lib.hid (h.bel bb.out)
  have hp := Lib.hid (pad_list hl h6)
  clear h
  obtain ⟨ba, bo, rfl, _⟩ := row_at hR.out (show 0 < m by omega)
  have hn := Lib.hid (row_news hR.out (by omega))
  go_enter Try.func90, Try.ntmps90
  go_upto_region 2 with fail
  rw [← hW0]
  clear hW0
  have hsz : (Try.prog.info? 3).map (·.size) = some 1 := by kernel_rfl
  go_wp2_with (refine wpList_copy_splice rfl _ _ 23 23 rfl 3 Try.underlying23 hsz _ _ 6 6 m cb rfl rfl (w.heap.size + 1) 0 ((List.replicate 6 (0 : Int)).map (Value.int .i64)) 88 hg.out (cols.map (Value.int .i64)) ?c1 (fun _ => ⟨rfl, _, rfl, ?c2⟩) ?c3 ?c4 (w.heap.size + 1) W0 (Below.refl _ _) (Nat.le_refl _) ?_)
  case c1 => rw [List.length_map, hl]; show m = min m 6; omega
  case c2 => exact hn.out
  case c3 => rw [List.length_map, List.length_map, List.length_replicate]; omega
  case c4 => exact ints_oneCell _ _
  intro w3 hh hb
  have hq : w3.heap[w.heap.size + 1]? = some (.cells ((padL cols).map (Value.int .i64)).toArray 88 (0, 0)) := by rw [← hp.out]; exact hh.out
  have A := Arr.block hq (pad_len _)
  have Z3 := Z.out.bel' (hb.mono (Nat.le_refl _)) (by omega)
  replace bb := Lib.hid (bb.out.trans (hb.mono (by omega)))
  have ha := agg_six A.len
  have c0 := A.c 0 (by omega)
  have c1 := A.c 1 (by omega)
  have c2 := A.c 2 (by omega)
  have c3 := A.c 3 (by omega)
  have c4 := A.c 4 (by omega)
  have c5 := A.c 5 (by omega)
  have z0 := Z3.c 0 (by omega)
  have z1 := Z3.c 1 (by omega)
  have z2 := Z3.c 2 (by omega)
  have z3 := Z3.c 3 (by omega)
  have z4 := Z3.c 4 (by omega)
  have z5 := Z3.c 5 (by omega)
  have zf := Z3.fz
  replace ha := Lib.hid ha
  clear hh hb hq A Z3 Z hg hn hR hp
  go_wp2_with fail
  refine bodyPost_ret (v := .agg #[.int .i64 ((padL cols).getD 0 0), .int .i64 ((padL cols).getD 1 0), .int .i64 ((padL cols).getD 2 0), .int .i64 ((padL cols).getD 3 0), .int .i64 ((padL cols).getD 4 0), .int .i64 ((padL cols).getD 5 0)]) (by simp [results, Try.results90, go_sem, z0, z1, z2, z3, z4, z5]) rfl ?_
  exact ⟨by rw [ha.out], (((((bb.out.setCell (by simp) _).setCell (by simp) _).setCell (by simp) _).setCell (by simp) _).setCell (by simp) _).setCell (by simp) _⟩
end Go.Proofs.Ytnfkafaolelkbaa

