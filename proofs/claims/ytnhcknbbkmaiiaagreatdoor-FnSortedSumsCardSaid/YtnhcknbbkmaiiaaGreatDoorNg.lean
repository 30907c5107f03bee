/-
  Plain facts on sorting rows: a stable sort by swaps, rows sorted and turned twice, the order value by value.
  The contracts of the program's sorting: the comparison that it hands over, slices.SortStableFunc at short lists, sortedBy, rowsSorted.
  The contracts of the program's rowsSorted, ImageSorted and ImageUnique.
-/
import Derived.Test.YtnhcknbbkmaiiaaGreatDoorNa
import Derived.Test.YtnhcknbbkmaiiaaGreatDoorPa
import Derived.Test.YtnhcknbbkmaiiaaGreatDoorEp
import Derived.BigQuiet
import Derived.Test.YtnhcknbbkmaiiaaGreatDoorRa
import Derived.Test.YtnhcknbbkmaiiaaGreatDoorA
import Derived.Deep.RegionLaw

namespace Go.Proofs.YtnhcknbbkmaiiaaGreatDoor
set_option maxRecDepth 100000

theorem ordp_trans {f : Nat → Int} {a b c : Nat} (h1 : ordP f a b) (h2 : ordP f b c) : ordP f a c := by unfold ordP at *; omega
/-- Indexes in a list that is being sorted: the first k are in order, the others at their places. -/
structure Stb (f : Nat → Int) (L : List Nat) (n k : Nat) : Prop where
  len : L.length = n
  perm : L.Perm (List.range n)
  ord : ∀ p q, p < q → q < k → ordP f (L.getD p 0) (L.getD q 0)
  lo : ∀ p, p < k → p < n → L.getD p 0 < k
  hi : ∀ p, k ≤ p → p < n → L.getD p 0 = p
/-- .. the one at j, which is k, is on its way to its place. -/
structure Sti (f : Nat → Int) (L : List Nat) (n k j : Nat) : Prop where
  len : L.length = n
  perm : L.Perm (List.range n)
  ord : ∀ p q, p < q → q ≤ k → q ≠ j → ordP f (L.getD p 0) (L.getD q 0)
  own : L.getD j 0 = k
  lo : ∀ p, p ≤ k → p ≠ j → L.getD p 0 < k
  hi : ∀ p, k < p → p < n → L.getD p 0 = p
theorem stb_zero (f : Nat → Int) (n : Nat) : Stb f (List.range n) n 1 :=
  ⟨List.length_range, List.Perm.refl _, fun p q h1 h2 => by omega, fun p h1 h2 => by rw [range_get h2]; omega, fun p _ h => range_get h⟩
theorem sti_start {f : Nat → Int} {L : List Nat} {n k : Nat} (h : Stb f L n k) (hk : k < n) : Sti f L n k k :=
  ⟨h.len, h.perm, fun p q h1 h2 h3 => h.ord p q h1 (by omega), h.hi k (Nat.le_refl _) hk, fun p h1 h2 => h.lo p (by omega) (by omega), fun p h1 h2 => h.hi p (by omega) h2⟩
theorem sti_zero {f : Nat → Int} {L : List Nat} {n k : Nat} (h : Sti f L n k 0) : Stb f L n (k + 1) :=
  ⟨h.len, h.perm, fun p q h1 h2 => h.ord p q h1 (by omega) (by omega), fun p h1 h2 => by
    by_cases e : p = 0
    · subst e; rw [h.own]; omega
    · have := h.lo p (by omega) e; omega, fun p h1 h2 => h.hi p (by omega) h2⟩
theorem sti_stop {f : Nat → Int} {L : List Nat} {n k j : Nat} (h : Sti f L n k (j + 1)) (hj : j + 1 ≤ k) (hs : ¬ f (L.getD j 0) < f (L.getD (j + 1) 0)) : Stb f L n (k + 1) := by
  have e1 : ordP f (L.getD j 0) (L.getD (j + 1) 0) := by
    have := h.lo j (by omega) (by omega)
    have := h.own
    unfold ordP; omega
  refine ⟨h.len, h.perm, fun p q h1 h2 => ?_, fun p h1 h2 => ?_, fun p h1 h2 => h.hi p (by omega) h2⟩
  · by_cases e : q = j + 1
    · subst e
      by_cases e2 : p = j
      · subst e2; exact e1
      · exact ordp_trans (h.ord p j (by omega) (by omega) (by omega)) e1
    · exact h.ord p q h1 (by omega) e
  · by_cases e : p = j + 1
    · subst e; rw [h.own]; omega
    · have := h.lo p (by omega) e; omega
def swapN (L : List Nat) (j : Nat) : List Nat := (L.set (j + 1) (L.getD j 0)).set j (L.getD (j + 1) 0)
theorem setn_at {L : List Nat} {k v : Nat} (hk : k < L.length) (i : Nat) : (L.set k v).getD i 0 = if i = k then v else L.getD i 0 := by
  by_cases e : i = k
  · subst e
    rw [if_pos rfl, List.getD_eq_getElem?_getD, List.getElem?_eq_getElem (by rw [List.length_set]; exact hk), Option.getD_some, List.getElem_set_self]
  · rw [if_neg e, List.getD_eq_getElem?_getD, List.getD_eq_getElem?_getD, List.getElem?_set_ne (by omega)]
theorem swapn_get {L : List Nat} {j : Nat} (hj : j + 1 < L.length) (i : Nat) : (swapN L j).getD i 0 = if i = j then L.getD (j + 1) 0 else if i = j + 1 then L.getD j 0 else L.getD i 0 := by
  unfold swapN; rw [setn_at (by rw [List.length_set]; omega), setn_at hj]
theorem swapn_len (L : List Nat) (j : Nat) : (swapN L j).length = L.length := by unfold swapN; rw [List.length_set, List.length_set]
theorem swapn_perm {L : List Nat} {j : Nat} (hj : j + 1 < L.length) : (swapN L j).Perm L := by
  unfold swapN
  rw [List.getD_eq_getElem?_getD, List.getD_eq_getElem?_getD, List.getElem?_eq_getElem hj, List.getElem?_eq_getElem (show j < L.length by omega)]
  exact List.set_set_perm (i := j + 1) (j := j) hj (by omega)
theorem sti_swap {f : Nat → Int} {L : List Nat} {n k j : Nat} (h : Sti f L n k (j + 1)) (hk : k < n) (hj : j + 1 ≤ k) (hs : f (L.getD j 0) < f (L.getD (j + 1) 0)) : Sti f (swapN L j) n k j := by
  have hl := h.len
  have hj1 : j + 1 < L.length := by omega
  refine ⟨by rw [swapn_len, hl], (swapn_perm hj1).trans h.perm, fun p q h1 h2 h3 => ?_, ?_, fun p h1 h2 => ?_, fun p h1 h2 => ?_⟩
  · rw [swapn_get hj1, swapn_get hj1, if_neg h3]
    by_cases e1 : q = j + 1
    · subst e1
      rw [if_pos rfl]
      by_cases e2 : p = j
      · rw [if_pos e2]; unfold ordP; omega
      · rw [if_neg e2, if_neg (by omega)]
        exact h.ord p j (by omega) (by omega) (by omega)
    · rw [if_neg e1]
      by_cases e2 : p = j
      · rw [if_pos e2]; exact h.ord (j + 1) q (by omega) h2 e1
      · rw [if_neg e2]
        by_cases e3 : p = j + 1
        · rw [if_pos e3]; exact h.ord j q (by omega) h2 e1
        · rw [if_neg e3]; exact h.ord p q h1 h2 e1
  · rw [swapn_get hj1, if_pos rfl]; exact h.own
  · rw [swapn_get hj1, if_neg h2]
    by_cases e : p = j + 1
    · rw [if_pos e]; exact h.lo j (by omega) (by omega)
    · rw [if_neg e]; exact h.lo p h1 e
  · rw [swapn_get hj1, if_neg (by omega), if_neg (by omega)]
    exact h.hi p h1 h2
theorem stb_end {f : Nat → Int} {L : List Nat} {n k : Nat} (hf : ∀ i, i < n → 0 ≤ f i ∧ f i ≤ 6) (h : Stb f L n k) (hk : n ≤ k) : L = ordL f n := by
  refine ord_eq hf h.perm ?_
  rw [List.pairwise_iff_getElem]
  intro p q hp hq hpq
  have hl := h.len
  have := h.ord p q hpq (by omega)
  rw [List.getD_eq_getElem?_getD, List.getD_eq_getElem?_getD, List.getElem?_eq_getElem hp, List.getElem?_eq_getElem hq] at this
  exact this
/-- The rows at some indexes. -/
def pickL (xs : List Int) (L : List Nat) : List Int := L.map fun i => xs.getD i 0
theorem pick_len (xs : List Int) (L : List Nat) : (pickL xs L).length = L.length := List.length_map _
theorem pick_get (xs : List Int) {L : List Nat} {i : Nat} (h : i < L.length) : (pickL xs L).getD i 0 = xs.getD (L.getD i 0) 0 := by
  rw [List.getD_eq_getElem?_getD, List.getElem?_eq_getElem (by rw [pick_len]; exact h)]
  unfold pickL
  rw [Option.getD_some, List.getElem_map, List.getD_eq_getElem?_getD (l := L), List.getElem?_eq_getElem h]; rfl
theorem pick_range {xs : List Int} {n : Nat} (h : xs.length = n) : pickL xs (List.range n) = xs := by
  apply List.ext_getElem
  · rw [pick_len, List.length_range, h]
  · intro i h1 h2
    have := pick_get xs (L := List.range n) (i := i) (by rw [List.length_range]; omega)
    rw [range_get (by omega)] at this
    rw [getD_elem h1, getD_elem h2] at this
    exact this
theorem pick_swap {xs : List Int} {L : List Nat} {j : Nat} (hj : j + 1 < L.length) : pickL xs (swapN L j) = swapL (pickL xs L) j := by
  unfold swapL swapN
  rw [pick_get xs hj, pick_get xs (show j < L.length by omega)]
  unfold pickL
  rw [List.map_set, List.map_set]
/-- The rows by descending sum. -/
def rsortL (xs : List Int) (W n : Nat) : List Int := pickL xs (rowO xs W n)
theorem rsort_cell {xs : List Int} {W n i j : Nat} (h : Im W n xs) (hi : i < n) : cellOf (rsortL xs W n) i j = cellOf xs ((rowO xs W n).getD i 0) j := by
  have hl : (rowO xs W n).length = n := by rw [(rowo_perm h).length_eq, List.length_range]
  unfold cellOf rsortL
  rw [pick_get xs (by omega)]
theorem rsort_im {xs : List Int} {W n : Nat} (h : Im W n xs) : Im W n (rsortL xs W n) := by
  have hl : (rowO xs W n).length = n := by rw [(rowo_perm h).length_eq, List.length_range]
  have e : (rsortL xs W n).length = n := by unfold rsortL; rw [pick_len, hl]
  refine Im.of (validB_yes (inB_yes (by have := h.w1; omega) (by have := h.w6; omega)) (inB_yes (by rw [e]; have := h.l1; omega) (by rw [e]; have := h.l6; omega)) fun i hi => ?_) e
  rw [e] at hi
  unfold rsortL
  rw [pick_get xs (by omega), Int.toNat_natCast]
  have := h.row _ (perm_lt (rowo_perm h) hi)
  exact inB_yes this.1 this.2
theorem ord_ext {f g : Nat → Int} {n : Nat} (h : ∀ i, i < n → f i = g i) : ordL f n = ordL g n := by
  unfold ordL
  congr 1
  funext x
  exact List.filter_congr fun i hi => by rw [h i (List.mem_range.1 hi)]
theorem rsort_ci {xs : List Int} {W n j : Nat} (h : Im W n xs) : cI (rsortL xs W n) n j = cI xs n j := by
  unfold cI
  rw [sum_ext (g := fun i => bI (cellOf xs ((rowO xs W n).getD i 0) j)) fun i hi => by (try dsimp only); rw [rsort_cell h hi]]
  exact sum_perm (rowo_perm h) (fun i => bI (cellOf xs i j))
theorem ri_turn {xs : List Int} {W n j : Nat} (h : Im W n xs) (hj : j < W) : rI (turnL xs W n) n j = cI xs n j :=
  sum_ext fun i hi => by (try dsimp only); rw [turn_cell h hi hj]
/-- Sorted along rows, then along columns. -/
theorem rsort_two {xs : List Int} {W n : Nat} (h : Im W n xs) : turnL (rsortL (turnL (rsortL xs W n) W n) n W) n W = sortI xs W n := by
  have h1 := rsort_im h
  have h2 := h1.turn
  have h3 := rsort_im h2
  have h4 := h3.turn
  have eo : rowO (turnL (rsortL xs W n) W n) n W = colO xs W n := ord_ext fun j hj => by rw [ri_turn h1 hj, rsort_ci h]
  refine im_cell_ext h4 (sorti_im h) fun i j hi hj => ?_
  rw [turn_cell h3 hj hi, rsort_cell h2 hj, eo, turn_cell h1 hi (perm_lt (colo_perm h) hj), rsort_cell h hi, sorti_cell h hi hj]; rfl
/-- The order, value by value. -/
def ordK (f : Nat → Int) (n : Nat) : Nat → List Nat
  | 0 => []
  | k + 1 => ordK f n k ++ (List.range n).filter fun i => f i == 6 - (k : Int)
theorem ord_seven (f : Nat → Int) (n : Nat) : ordK f n 7 = ordL f n := by
  unfold ordL
  simp only [ordK, List.nil_append, show (List.range 7).reverse = [6, 5, 4, 3, 2, 1, 0] from rfl, List.flatMap_cons, List.flatMap_nil, List.append_nil, List.append_assoc]
  rfl
def ordJ (f : Nat → Int) (n k j : Nat) : List Nat := ordK f n k ++ (List.range j).filter fun i => f i == 6 - (k : Int)
theorem ordj_zero (f : Nat → Int) (n k : Nat) : ordJ f n k 0 = ordK f n k := by simp [ordJ]
theorem ordj_all (f : Nat → Int) (n k : Nat) : ordJ f n k n = ordK f n (k + 1) := rfl
theorem ordj_yes {f : Nat → Int} {n k j : Nat} (h : f j = 6 - (k : Int)) : ordJ f n k (j + 1) = ordJ f n k j ++ [j] := by
  unfold ordJ
  rw [List.range_succ, List.filter_append, ← List.append_assoc]
  simp [h]
theorem ordj_no {f : Nat → Int} {n k j : Nat} (h : ¬ f j = 6 - (k : Int)) : ordJ f n k (j + 1) = ordJ f n k j := by
  unfold ordJ
  rw [List.range_succ, List.filter_append, ← List.append_assoc]
  simp [h]
end Go.Proofs.YtnhcknbbkmaiiaaGreatDoor

namespace Go.Proofs.YtnhcknbbkmaiiaaGreatDoor
set_option maxRecDepth 100000
open Go.RowKit

theorem qd2 {P : Program} {f : FuncId} {args : Array Value} {w : World} {n : Nat} {v : Value}
    (h : Calls P f args (w.drewN n) fun e w' => e = .returned v ∧ ∃ m, w' = (w.drewN n).drewN m) : Calls P f args (w.drewN n) fun e w'' => e = .returned v ∧ ∃ m, w'' = w.drewN m :=
  h.mono fun _ _ ⟨he, m, hm⟩ => ⟨he, n + m, by rw [hm, World.drewN_drewN]⟩
set_option maxHeartbeats 800000 in
theorem by_any (s : Nat) (x y : Int) (w : World) (hs : w.cell? ⟨s, 0, none⟩ = some (.func (.func 94) #[] #[])) (hx0 : 0 ≤ x) (hx : x ≤ 63) (hy0 : 0 ≤ y) (hy : y ≤ 63) :
    Calls Tryz.prog 112 #[.int .i64 x, .int .i64 y, .pointer (some ⟨s, 0, none⟩)] w fun e w' => e = .returned (.int .i64 (cmpI (cntI y 6) (cntI x 6))) ∧ ∃ m, w' = w.drewN m := by
  go_enter Tryz.func112, Tryz.ntmps112
  go_wp2_with fail
  go_quiet (first | (go_at_call 94; first | (with_reducible exact qd (rmany_any x _ hx0 hx)) | (with_reducible exact qd (rmany_any y _ hy0 hy))) | (go_at_call 84; exact qd (desc_any _ _ _)))
  go_wp2_with fail
  go_ret
  exact ⟨rfl, _, rfl⟩
/-- What sorting leaves. -/
def SortsBy (w : World) (B g n cap : Nat) (xs : List Int) (e : Ending) (w' : World) : Prop :=
  e = .returned (.tuple #[]) ∧ OwnI w' B (some ⟨g, 0, none⟩) n cap (pickL xs (ordL (fun i => cntI (xs.getD i 0) 6) n)) ∧ w.grownBy w' (some g)

set_option maxHeartbeats 4000000 in
theorem insert_by (s B g n cap : Nat) (xs : List Int) (w : World) (h : OwnI w B (some ⟨g, 0, none⟩) n cap xs) (hs : w.cell? ⟨s, 0, none⟩ = some (.func (.func 94) #[] #[])) (hsg : s ≠ g)
    (hb : ∀ i, i < n → 0 ≤ xs.getD i 0 ∧ xs.getD i 0 ≤ 63) (hn : n ≤ 12) :
    Calls Tryz.prog 117 #[.slice (some ⟨g, 0, none⟩) n cap, .int .i64 0, .int .i64 n, .func (.func 112) #[] #[.pointer (some ⟨s, 0, none⟩)]] w (SortsBy w B g n cap xs) := by
  have hl := h.len
  obtain ⟨f, hf⟩ : ∃ f : Nat → Int, (fun i => cntI (xs.getD i 0) 6) = f := ⟨_, rfl⟩
  have hfi : ∀ i, cntI (xs.getD i 0) 6 = f i := fun i => by rw [← hf]
  have hfb : ∀ i, i < n → 0 ≤ f i ∧ f i ≤ 6 := fun i _ => by rw [← hfi]; exact cnt_bd _ 6
  unfold SortsBy
  rw [hf]
  have H := Lib.hid h
  replace hb := Lib.hid hb
  replace hfi := Lib.hid hfi
  replace hfb := Lib.hid hfb
  have hsn : some s ≠ some g := fun e => hsg (Option.some.inj e)
  have hs0 := Lib.hid hs
  clear h hs hf
  go_enter Tryz.func117, Tryz.ntmps117
  go_wp2_with fail
  go_loopw [8] (fun i wr => ∃ (k : Nat) (L : List Nat), 1 ≤ k ∧ (k ≤ n ∨ k = 1) ∧ i = .int .i64 k ∧ Hid (Stb f L n k) ∧ Hid (OwnI wr B (some ⟨g, 0, none⟩) n cap (pickL xs L)) ∧ Hid (w.grownBy wr (some g))) (fun i _ => n + 1 - (intOf i).toNat)
  case atStart => exact ⟨1, List.range n, by omega, by omega, rfl, Lib.hid (stb_zero f n), Lib.hid (by rw [pick_range hl]; exact H.out), Lib.hid (World.grownBy.refl _ _)⟩
  case round =>
    obtain ⟨k, L0, hk1, hkn, rfl, hS, hO, hG⟩ := hrel
    obtain ⟨wo, rfl⟩ : ∃ wo : World, wo = wr := ⟨_, rfl⟩
    by_cases hlt : k < n
    · go_wp2_with fail
      go_loopw [9] (fun i wr => ∃ (j : Nat) (L : List Nat), j ≤ k ∧ i = .int .i64 j ∧ Hid (Sti f L n k j) ∧ Hid (OwnI wr B (some ⟨g, 0, none⟩) n cap (pickL xs L)) ∧ Hid (w.grownBy wr (some g))) (fun i _ => (intOf i).toNat)
      case atStart => exact ⟨k, L0, Nat.le_refl _, rfl, Lib.hid (sti_start hS.out hlt), hO, hG⟩
      case round =>
        obtain ⟨j, L, hjk, rfl, hI, hO2, hG2⟩ := hrel
        clear hS hO hG H
        by_cases h0 : j = 0
        · subst h0
          go_wp2_with fail
          go_quiet (fail)
          go_wp2_with fail
          exact ⟨⟨k + 1, L, by omega, by omega, by go_num, Lib.hid (sti_zero hI.out), Lib.hid (hO2.out.bel (below_drewN (Below.refl _ _) _)), Lib.hid (grown_drewN hG2.out _)⟩, by simp [intOf]; omega⟩
        · obtain ⟨m, rfl⟩ : ∃ m, j = m + 1 := ⟨j - 1, by omega⟩
          have hsr := hG2.out.cell hs0.out (by simpa using hsg)
          have hIl := hI.out.len
          have hc := own_cell hO2.out (i := m + 1) (by omega)
          have hc' := own_cell hO2.out (i := m) (by omega)
          have e1 := pick_get xs (L := L) (i := m + 1) (by omega)
          have e2 := pick_get xs (L := L) (i := m) (by omega)
          have b1 := hb.out _ (perm_lt hI.out.perm (i := m + 1) (by omega))
          have b2 := hb.out _ (perm_lt hI.out.perm (i := m) (by omega))
          have f1 := hfi.out (L.getD (m + 1) 0)
          have f2 := hfi.out (L.getD m 0)
          obtain ⟨x, hx⟩ : ∃ x, xs.getD (L.getD (m + 1) 0) 0 = x := ⟨_, rfl⟩
          obtain ⟨y, hy⟩ : ∃ y, xs.getD (L.getD m 0) 0 = y := ⟨_, rfl⟩
          rw [hx] at e1 b1 f1
          rw [hy] at e2 b2 f2
          rw [e1] at hc
          rw [e2] at hc'
          have x0 := b1.1
          have x1 := b1.2
          have y0 := b2.1
          have y1 := b2.2
          have i1 : IntKind.i64.wrap ((m : Int) + 1 - 1) = (m : Int) := by rw [IntKind.wrap_i64]; omega
          have i2 : ((m : Int) + 1).toNat = m + 1 := by omega
          replace hx := Lib.hid hx
          replace hy := Lib.hid hy
          replace e1 := Lib.hid e1
          replace e2 := Lib.hid e2
          clear b1 b2
          by_cases hyx : cntI y 6 < cntI x 6
          · have ht := cmpI_yes hyx
            have hs4 : f (L.getD m 0) < f (L.getD (m + 1) 0) := by rw [← f1, ← f2]; exact hyx
            replace hs4 := Lib.hid hs4
            replace f1 := Lib.hid f1
            replace f2 := Lib.hid f2
            go_wp2_with fail
            go_quiet ((go_at_call 112; exact qd2 (by_any s x y _ hsr x0 x1 y0 y1)))
            have hO3 := hO2.out.bel (below_drewN (Below.refl _ _) nq)
            have hG3 := grown_drewN hG2.out nq
            generalize wr.drewN nq = w2 at hO3 hG3 ⊢
            have hc := own_cell hO3 (i := m + 1) (by omega)
            have hc' := own_cell hO3 (i := m) (by omega)
            rw [e1.out] at hc
            rw [e2.out] at hc'
            have hf := hO3.frozen (m + 1)
            have hf' := hO3.frozen m
            have hO3 := Lib.hid hO3
            have hG3 := Lib.hid hG3
            have hI2 := Lib.hid (sti_swap hI.out hlt hjk hs4.out)
            have hps := Lib.hid (pick_swap (xs := xs) (L := L) (j := m) (by omega))
            clear hO2 hG2 hI hyx ht hsr hs4
            go_wp2_with fail
            go_region
            all_goals
              go_wp2_with fail
              exact ⟨⟨m, swapN L m, by omega, by go_num, hI2, Lib.hid (by rw [hps.out]; exact (own_swap hO3.out e1.out e2.out).out), own_swap_grown hG3.out⟩, by simp [intOf]⟩
          · have ht := cmpI_no hyx
            have hs4 : ¬ f (L.getD m 0) < f (L.getD (m + 1) 0) := by rw [← f1, ← f2]; exact hyx
            replace hs4 := Lib.hid hs4
            replace f1 := Lib.hid f1
            replace f2 := Lib.hid f2
            go_wp2_with fail
            go_quiet ((go_at_call 112; exact qd2 (by_any s x y _ hsr x0 x1 y0 y1)))
            go_wp2_with fail
            exact ⟨⟨k + 1, L, by omega, by omega, by go_num, Lib.hid (sti_stop hI.out hjk (by have := hs4.out; omega)), Lib.hid (hO2.out.bel (below_drewN (Below.refl _ _) _)), Lib.hid (grown_drewN hG2.out _)⟩, by simp [intOf]; omega⟩
    · go_wp2_with fail
      go_end0
      refine ⟨rfl, ?_, hG.out⟩
      rw [← stb_end hfb.out hS.out (by omega)]
      exact hO.out

set_option maxHeartbeats 800000 in
theorem stable_by (s B g n cap : Nat) (xs : List Int) (w : World) (h : OwnI w B (some ⟨g, 0, none⟩) n cap xs) (hs : w.cell? ⟨s, 0, none⟩ = some (.func (.func 94) #[] #[])) (hsg : s ≠ g)
    (hb : ∀ i, i < n → 0 ≤ xs.getD i 0 ∧ xs.getD i 0 ≤ 63) (hn : n ≤ 12) :
    Calls Tryz.prog 128 #[.slice (some ⟨g, 0, none⟩) n cap, .int .i64 n, .func (.func 112) #[] #[.pointer (some ⟨s, 0, none⟩)]] w (SortsBy w B g n cap xs) := by
  have hi := insert_by s B g n cap xs w h hs hsg hb hn
  clear h hs hb
  go_enter Tryz.func128, Tryz.ntmps128
  go_wp2_with fail
  refine wp_loop_rounds 1 ?_
  rw [rounds_succ]
  go_wp2_with fail
  refine hi.mono ?_
  rintro e w' ⟨rfl, ho, hg⟩
  replace ho := Lib.hid ho
  replace hg := Lib.hid hg
  go_wp2_with fail
  refine wp_loop_rounds 1 ?_
  rw [rounds_succ]
  go_wp2_with fail
  go_end0
  exact ⟨rfl, ho.out, hg.out⟩
set_option maxHeartbeats 800000 in
theorem sortStable_by (s B g n cap : Nat) (xs : List Int) (w : World) (h : OwnI w B (some ⟨g, 0, none⟩) n cap xs) (hs : w.cell? ⟨s, 0, none⟩ = some (.func (.func 94) #[] #[])) (hsg : s ≠ g)
    (hb : ∀ i, i < n → 0 ≤ xs.getD i 0 ∧ xs.getD i 0 ≤ 63) (hn : n ≤ 12) :
    Calls Tryz.prog 111 #[.slice (some ⟨g, 0, none⟩) n cap, .func (.func 112) #[] #[.pointer (some ⟨s, 0, none⟩)]] w (SortsBy w B g n cap xs) := by
  have hi := stable_by s B g n cap xs w h hs hsg hb hn
  clear h hs hb
  go_enter Tryz.func111, Tryz.ntmps111
  go_wp2_with fail
  refine hi.mono ?_
  rintro e w' ⟨rfl, ho, hg⟩
  replace ho := Lib.hid ho
  replace hg := Lib.hid hg
  go_wp2_with fail
  go_end0
  exact ⟨rfl, ho.out, hg.out⟩
set_option maxHeartbeats 800000 in
theorem sortedBy_any (a : Option Addr) (n cap : Nat) (xs : List Int) (w : World) (h : Row w a n xs) (hb : ∀ i, i < n → 0 ≤ xs.getD i 0 ∧ xs.getD i 0 ≤ 63) (h1 : 1 ≤ n) (hn : n ≤ 12) :
    Calls Tryz.prog 93 #[.slice a n cap, .func (.func 94) #[] #[]] w fun e w' => (∃ g c, e = .returned (.slice (some ⟨g, 0, none⟩) n c) ∧ OwnI w' w.heap.size (some ⟨g, 0, none⟩) n c (pickL xs (ordL (fun i => cntI (xs.getD i 0) 6) n))) ∧ Below w.heap.size w w' := by
  obtain ⟨b, off, rfl, hcc⟩ := h.2.resolve_left (by omega)
  have hl := h.1
  obtain ⟨W0, hW0⟩ : ∃ W0, W0 = w.alloc (.cells #[.func (.func 94) #[] #[]] 58) := ⟨_, rfl⟩
  have bb : Hid (Below w.heap.size w W0) := by subst hW0; exact (Below.refl _ _).alloc (Nat.le_refl _) _
  have s0 : W0.cell? ⟨w.heap.size, 0, none⟩ = some (.func (.func 94) #[] #[]) := by subst hW0; go_simp
  have hz : W0.heap.size = w.heap.size + 1 := by subst hW0; simp
  have r := Lib.hid (h.bel bb.out)
  have hcl := clone_any b off n cap xs W0 hl (r.out.2.resolve_left (by omega) |> fun ⟨b', off', e, hc⟩ => by cases e; exact hc) (by omega) h1
  replace hb := Lib.hid hb
  replace hz := Lib.hid hz
  clear h hcc
  go_enter Tryz.func93, Tryz.ntmps93
  go_wp2_with fail
  rw [← hW0]
  clear hW0
  refine hcl.mono ?_
  rintro e w1 ⟨⟨a1, c1, rfl, ho⟩, hb1⟩
  replace s0 := kept hb1 (block_lt s0) s0
  replace bb := Lib.hid (bb.out.trans (hb1.mono bb.out.size))
  obtain ⟨g, rfl⟩ : ∃ g, a1 = some ⟨g, 0, none⟩ := by
    rcases ho.cases with ⟨_, h1, _⟩ | ⟨g, h1, _⟩
    · omega
    · exact ⟨g, h1⟩
  have hg := (rng_own ho _ rfl).1
  have hz := hz.out
  have hgw : w.heap.size < g := by simp only at hg; omega
  replace ho := Lib.hid ho
  clear hb1 hg
  replace hz := Lib.hid hz
  go_wp2_with fail
  refine (sortStable_by w.heap.size _ g n c1 xs _ ho.out s0 (by omega) hb.out hn).mono ?_
  rintro e w2 ⟨rfl, ho2, hg2⟩
  have ho2 := Lib.hid (ho2.mono (B' := w.heap.size) (by have := hz.out; omega))
  have bb2 := Lib.hid (bb.out.trans ((grown_below hg2).mono (by have := bb.out.size; omega)))
  clear ho hg2 bb s0
  go_wp2_with fail
  go_ret
  exact ⟨⟨g, c1, rfl, ho2.out⟩, bb2.out⟩
end Go.Proofs.YtnhcknbbkmaiiaaGreatDoor

namespace Go.Proofs.YtnhcknbbkmaiiaaGreatDoor
set_option maxRecDepth 100000
open Go.RowKit

theorem cnt_ri {xs : List Int} {W n i : Nat} (h : Im W n xs) (hi : i < n) : cntI (xs.getD i 0) 6 = rI xs W i := by
  have hr := h.row i hi
  obtain ⟨x, hx, h64⟩ := h.nat hi
  rw [cnt_num _ W hr.1 hr.2 (by omega) h.w6, cnt_sum]
  exact sum_ext fun j _ => by rw [cell_bit]
theorem rsort_pick {xs : List Int} {W n : Nat} (h : Im W n xs) : pickL xs (ordL (fun i => cntI (xs.getD i 0) 6) n) = rsortL xs W n := by
  unfold rsortL rowO
  rw [ord_ext (g := rI xs W) fun i hi => cnt_ri h hi]
set_option maxHeartbeats 2000000 in
theorem rsorted_any (W n : Nat) (a : Option Addr) (cap : Nat) (xs : List Int) (w : World) (h : Row w a n xs) (hI : Im W n xs) :
    Calls Tryz.prog 61 #[.agg #[.int .i64 W, .slice a n cap]] w fun e w' => (∃ a' c', e = .returned (.agg #[.int .i64 W, .slice a' n c']) ∧ OwnI w' w.heap.size a' n c' (rsortL xs W n)) ∧ Below w.heap.size w w' := by
  have hl := h.1
  have h1 := hI.l1
  have hn6 := hI.l6
  have hb6 : ∀ i, i < n → 0 ≤ xs.getD i 0 ∧ xs.getD i 0 ≤ 63 := fun i hi => by
    obtain ⟨x, hx, h64⟩ := hI.nat hi
    rw [hx]; omega
  obtain ⟨W0, hW0⟩ : ∃ W0, W0 = ((w.alloc (.cells #[.int .i64 W, .slice a n cap] 25)).alloc (.cells #[.int .i64 0, .slice none 0 0] 25)) := ⟨_, rfl⟩
  have bb : Hid (Below w.heap.size w W0) := by subst hW0; exact ((Below.refl _ _).alloc (Nat.le_refl _) _).alloc (by simp) _
  have x0 : W0.cell? ⟨w.heap.size, 0, none⟩ = some (.int .i64 W) := by subst hW0; go_simp
  have x1 : W0.cell? ⟨w.heap.size, 1, none⟩ = some (.slice a n cap) := by subst hW0; go_simp
  have z0 : W0.cell? ⟨w.heap.size + 1, 0, none⟩ = some (.int .i64 0) := by subst hW0; go_simp
  have z1 : W0.cell? ⟨w.heap.size + 1, 1, none⟩ = some (.slice none 0 0) := by subst hW0; go_simp
  have zf : ∀ o, W0.frozen? ⟨w.heap.size + 1, o, none⟩ = false := fun o => by subst hW0; go_simp
  have hz : w.heap.size + 1 < W0.heap.size := block_lt z0
  have r := (h.bel bb.out).bel (w' := W0.drew) ((Below.refl _ _).drew)
  have hcs := Lib.hid (fun (wx : World) (hx : Row wx a n xs) => rsort_pick hI ▸ sortedBy_any a n cap xs wx hx hb6 h1 (by omega))
  replace r := Lib.hid r
  clear h hb6 hI hl
  go_enter Tryz.func61, Tryz.ntmps61
  go_wp2_with fail
  rw [← hW0]
  clear hW0
  go_region_law (first | (go_simp; go_at_call 93; (with_reducible refine (hcs.out _ r.out).mono ?_); rintro e w2 ⟨⟨gc, cc, rfl, ho⟩, hb2⟩; have hb : Below W0.heap.size W0 w2 := (((Below.refl _ _).drew).trans (hb2.mono (Nat.le_refl _))); have x0 := kept hb (block_lt x0) x0; have x1 := kept hb (block_lt x1) x1; have z0 := kept hb (block_lt z0) z0; have z1 := kept hb (block_lt z1) z1; have zf := (fun o => (hb.frozen (p := ⟨w.heap.size + 1, o, none⟩) hz).trans (zf o)); have ho := Lib.hid (OwnI.mono ho (B' := W0.heap.size) (by simp)); have bb := Lib.hid (bb.out.trans (hb.mono bb.out.size)); clear hb hb2))
  all_goals go_wp2_with fail
  all_goals refine bodyPost_ret (v := .agg #[.int .i64 W, .slice (some ⟨gc, 0, none⟩) n cc]) (by simp [results, Tryz.results61, go_sem, z0, z1]) rfl ?_
  all_goals exact ⟨⟨_, cc, rfl, ((ho.out.store (show w.heap.size + 1 < W0.heap.size from hz) _).store (show w.heap.size + 1 < W0.heap.size from hz) _).mono (by omega)⟩, (bb.out.setCell (by simp) _).setCell (by simp) _⟩

/-- What ImageSorted gives. -/
def sortO (V : Int) (xs : List Int) : Out := if validB V xs = true then ⟨true, V, sortI xs V.toNat xs.length⟩ else .no
theorem sorto_im {W n : Nat} {xs : List Int} (h : Im W n xs) : sortO W xs = ⟨true, W, sortI xs W n⟩ := by
  unfold sortO; rw [if_pos h.valid, h.hl, Int.toNat_natCast]
theorem sorti_len {W n : Nat} {xs : List Int} (h : Im W n xs) : (sortI xs W n).length = n := (sorti_im h).hl
set_option maxHeartbeats 2000000 in
theorem sorted_impl (V : Int) (a : Option Addr) (n cap : Nat) (xs : List Int) (w : World) (h : Row w a n xs) (hm : n ≤ 9223372036854775807) :
    Calls Tryz.prog 27 #[.agg #[.int .i64 V, .slice a n cap]] w (Gives w (sortO V xs)) := by
  have hl := h.1
  obtain ⟨W0, hW0⟩ : ∃ W0, W0 = ((w.alloc (.cells #[.int .i64 V, .slice a n cap] 25)).alloc (.cells #[.int .i64 0, .slice none 0 0] 25)) := ⟨_, rfl⟩
  have bb : Hid (Below w.heap.size w W0) := by subst hW0; exact ((Below.refl _ _).alloc (Nat.le_refl _) _).alloc (by simp) _
  have x0 : W0.cell? ⟨w.heap.size, 0, none⟩ = some (.int .i64 V) := by subst hW0; go_simp
  have x1 : W0.cell? ⟨w.heap.size, 1, none⟩ = some (.slice a n cap) := by subst hW0; go_simp
  have y0 : W0.cell? ⟨w.heap.size + 1, 0, none⟩ = some (.int .i64 0) := by subst hW0; go_simp
  have y1 : W0.cell? ⟨w.heap.size + 1, 1, none⟩ = some (.slice none 0 0) := by subst hW0; go_simp
  have yf : ∀ o, W0.frozen? ⟨w.heap.size + 1, o, none⟩ = false := fun o => by subst hW0; go_simp
  have r := Lib.hid (h.bel bb.out)
  clear h
  by_cases hv : validB V xs = true
  case neg =>
    rw [show sortO V xs = .no from if_neg hv]
    have hv : validB V xs = false := by simpa using hv
    clear hl
    go_enter Tryz.func27, Tryz.ntmps27
    go_wp2_with fail
    rw [← hW0]
    clear hW0
    refine (valid_impl V a n cap xs _ r.out hm).mono ?_
    rintro e v1 ⟨rfl, hb⟩
    have szv1 := hb.size
    replace yf : ∀ o, v1.frozen? ⟨w.heap.size + 1, o, none⟩ = false := fun o => (hb.frozen (p := ⟨w.heap.size + 1, o, none⟩) (show w.heap.size + 1 < _ from block_lt y0)).trans (yf o)
    replace x0 := kept hb (block_lt x0) x0
    replace x1 := kept hb (block_lt x1) x1
    replace y0 := kept hb (block_lt y0) y0
    replace y1 := kept hb (block_lt y1) y1
    replace r := Lib.hid (r.out.bel hb)
    replace bb := Lib.hid (bb.out.trans (hb.mono bb.out.size))
    rw [hv]
    clear hb
    go_wp2_with fail
    refine bodyPost_ret (v := .tuple #[.agg #[.int .i64 0, .slice none 0 0], .bool false]) (by simp [results, Tryz.results27, go_sem, y0, y1]) rfl ?_
    exact ⟨⟨none, 0, rfl, own_nil _ _⟩, (bb.out.setCell (by simp) _).setCell (by simp) _⟩
  have hW := validB_W hv
  obtain ⟨W, rfl⟩ := Int.eq_ofNat_of_zero_le (by omega : 0 ≤ V)
  have hI : Im W n xs := Im.of hv hl
  have hw6 := hI.w6
  have hn6 := hI.l6
  have h1 := rsort_im hI
  have h2 := h1.turn
  have h3 := rsort_im h2
  have eT := rsort_two hI
  rw [sorto_im hI]
  obtain ⟨A, hA⟩ : ∃ A, rsortL xs W n = A := ⟨_, rfl⟩
  rw [hA] at h1 h2 h3 eT
  obtain ⟨Bt, hBt⟩ : ∃ B, turnL A W n = B := ⟨_, rfl⟩
  rw [hBt] at h2 h3 eT
  obtain ⟨C, hC⟩ : ∃ C, rsortL Bt n W = C := ⟨_, rfl⟩
  rw [hC] at h3 eT
  have e5 := (sorti_im hI).hl
  obtain ⟨L, hL⟩ : ∃ L, sortI xs W n = L := ⟨_, rfl⟩
  rw [hL] at eT e5 ⊢
  have c1 := Lib.hid (fun (wx : World) (hx : Row wx a n xs) => hA ▸ rsorted_any W n a cap xs wx hx hI)
  have c2 := Lib.hid (fun (s : Option Addr) (c : Nat) (wx : World) (hx : Row wx s n A) => hBt ▸ turn_ok h1 s c wx hx)
  have c3 := Lib.hid (fun (s : Option Addr) (c : Nat) (wx : World) (hx : Row wx s W Bt) => hC ▸ rsorted_any n W s c Bt wx hx h2)
  have c4 := Lib.hid (fun (s : Option Addr) (c : Nat) (wx : World) (hx : Row wx s W C) => eT ▸ turn_ok h3 s c wx hx)
  replace e5 := Lib.hid e5
  clear hl hA hBt hC hL h1 h2 h3 eT hI hW
  go_enter Tryz.func27, Tryz.ntmps27
  go_wp2_with fail
  rw [← hW0]
  clear hW0
  refine (valid_impl (W : Int) a n cap xs _ r.out hm).mono ?_
  rintro e v2 ⟨rfl, hb⟩
  have szv2 := hb.size
  replace yf : ∀ o, v2.frozen? ⟨w.heap.size + 1, o, none⟩ = false := fun o => (hb.frozen (p := ⟨w.heap.size + 1, o, none⟩) (show w.heap.size + 1 < _ from block_lt y0)).trans (yf o)
  replace x0 := kept hb (block_lt x0) x0
  replace x1 := kept hb (block_lt x1) x1
  replace y0 := kept hb (block_lt y0) y0
  replace y1 := kept hb (block_lt y1) y1
  replace r := Lib.hid (r.out.bel hb)
  replace bb := Lib.hid (bb.out.trans (hb.mono bb.out.size))
  rw [hv]
  clear hb
  clear hv
  go_wp2_with fail
  refine (c1.out _ r.out).mono ?_
  rintro e v3 ⟨⟨s1, d1, rfl, ho⟩, hb⟩
  have szv3 := hb.size
  replace yf : ∀ o, v3.frozen? ⟨w.heap.size + 1, o, none⟩ = false := fun o => (hb.frozen (p := ⟨w.heap.size + 1, o, none⟩) (show w.heap.size + 1 < _ from block_lt y0)).trans (yf o)
  replace x0 := kept hb (block_lt x0) x0
  replace x1 := kept hb (block_lt x1) x1
  replace y0 := kept hb (block_lt y0) y0
  replace y1 := kept hb (block_lt y1) y1
  replace r := Lib.hid (r.out.bel hb)
  replace bb := Lib.hid (bb.out.trans (hb.mono bb.out.size))
  have o1 := Lib.hid ho.row
  clear ho hb
  go_wp2_with fail
  refine (c2.out _ _ _ o1.out).mono ?_
  rintro e v4 ⟨⟨s2, d2, rfl, ho⟩, hb⟩
  have szv4 := hb.size
  replace yf : ∀ o, v4.frozen? ⟨w.heap.size + 1, o, none⟩ = false := fun o => (hb.frozen (p := ⟨w.heap.size + 1, o, none⟩) (show w.heap.size + 1 < _ from block_lt y0)).trans (yf o)
  replace x0 := kept hb (block_lt x0) x0
  replace x1 := kept hb (block_lt x1) x1
  replace y0 := kept hb (block_lt y0) y0
  replace y1 := kept hb (block_lt y1) y1
  replace r := Lib.hid (r.out.bel hb)
  replace o1 := Lib.hid (o1.out.bel hb)
  replace bb := Lib.hid (bb.out.trans (hb.mono bb.out.size))
  have o2 := Lib.hid ho.row
  clear ho hb o1
  go_wp2_with fail
  obtain ⟨v5, h5⟩ : ∃ v5, v4.alloc (.cells #[.int .i64 n, .slice s2 W d2] 25) = v5 := ⟨_, rfl⟩
  have hb : Below v4.heap.size v4 v5 := by rw [← h5]; exact (Below.refl _ _).alloc (Nat.le_refl _) _
  rw [h5]
  clear h5
  have szv5 := hb.size
  replace yf : ∀ o, v5.frozen? ⟨w.heap.size + 1, o, none⟩ = false := fun o => (hb.frozen (p := ⟨w.heap.size + 1, o, none⟩) (show w.heap.size + 1 < _ from block_lt y0)).trans (yf o)
  replace x0 := kept hb (block_lt x0) x0
  replace x1 := kept hb (block_lt x1) x1
  replace y0 := kept hb (block_lt y0) y0
  replace y1 := kept hb (block_lt y1) y1
  replace r := Lib.hid (r.out.bel hb)
  replace o2 := Lib.hid (o2.out.bel hb)
  replace bb := Lib.hid (bb.out.trans (hb.mono bb.out.size))
  clear hb
  refine (c3.out _ _ _ o2.out).mono ?_
  rintro e v6 ⟨⟨s3, d3, rfl, ho⟩, hb⟩
  have szv6 := hb.size
  replace yf : ∀ o, v6.frozen? ⟨w.heap.size + 1, o, none⟩ = false := fun o => (hb.frozen (p := ⟨w.heap.size + 1, o, none⟩) (show w.heap.size + 1 < _ from block_lt y0)).trans (yf o)
  replace x0 := kept hb (block_lt x0) x0
  replace x1 := kept hb (block_lt x1) x1
  replace y0 := kept hb (block_lt y0) y0
  replace y1 := kept hb (block_lt y1) y1
  replace r := Lib.hid (r.out.bel hb)
  replace o2 := Lib.hid (o2.out.bel hb)
  replace bb := Lib.hid (bb.out.trans (hb.mono bb.out.size))
  have o3 := Lib.hid ho.row
  clear ho hb o2
  have l6 := bb.out.size
  have hk6 : w.heap.size + 1 < v6.heap.size := block_lt y0
  go_wp2_with fail
  refine (c4.out _ _ _ o3.out).mono ?_
  rintro e v7 ⟨⟨s4, d4, rfl, ho⟩, hb⟩
  have szv7 := hb.size
  replace yf : ∀ o, v7.frozen? ⟨w.heap.size + 1, o, none⟩ = false := fun o => (hb.frozen (p := ⟨w.heap.size + 1, o, none⟩) (show w.heap.size + 1 < _ from block_lt y0)).trans (yf o)
  replace x0 := kept hb (block_lt x0) x0
  replace x1 := kept hb (block_lt x1) x1
  replace y0 := kept hb (block_lt y0) y0
  replace y1 := kept hb (block_lt y1) y1
  replace r := Lib.hid (r.out.bel hb)
  replace o3 := Lib.hid (o3.out.bel hb)
  replace bb := Lib.hid (bb.out.trans (hb.mono bb.out.size))
  have ho := Lib.hid ho
  clear hb
  go_wp2_with fail
  refine bodyPost_ret (v := .tuple #[.agg #[.int .i64 W, .slice s4 n d4], .bool true]) (by simp [results, Tryz.results27, go_sem, y0, y1]) rfl ?_
  have lL : (Out.mk true (W : Int) L).xs.length = n := e5.out
  refine ⟨⟨s4, d4, by rw [lL], ?_⟩, (bb.out.setCell (by simp) _).setCell (by simp) _⟩
  rw [lL]
  exact ((ho.out.store hk6 _).store hk6 _).mono l6
end Go.Proofs.YtnhcknbbkmaiiaaGreatDoor
