/-
  The contract of slices.SortFunc at short lists: the list in descending order.
-/
import Derived.Test.YteadibgjieimkaaPb
import Derived.Test.YteadibgjieimkaaEx
import Derived.Lib.Small
import Derived.Lib.Walk
namespace Go.Proofs.Yteadibgjieimkaa
set_option maxRecDepth 100000
open Go.RowKit

/-- The first numbers do not ascend. -/
def Srt (ys : List Int) (i : Nat) : Prop := ∀ p q, p < q → q < i → ys.getD q 0 ≤ ys.getD p 0
/-- .. but for the one at j, which may be too far behind. -/
def Ins (ys : List Int) (i j : Nat) : Prop := ∀ p q, p < q → q ≤ i → q ≠ j → ys.getD q 0 ≤ ys.getD p 0
theorem ins_start {ys : List Int} {i : Nat} (h : Srt ys i) : Ins ys i i := fun p q hp hq hn => h p q hp (by omega)
theorem ins_zero {ys : List Int} {i : Nat} (h : Ins ys i 0) : Srt ys (i + 1) := fun p q hp hq => h p q hp (by omega) (by omega)
theorem ins_stop {ys : List Int} {i j : Nat} (h : Ins ys i (j + 1)) (hs : ys.getD (j + 1) 0 ≤ ys.getD j 0) : Srt ys (i + 1) := fun p q hp hq => by
  by_cases e : q = j + 1
  · subst e
    by_cases e2 : p = j
    · subst e2; exact hs
    · have := h p j (by omega) (by omega) (by omega); omega
  · exact h p q hp (by omega) e
def swapL (ys : List Int) (j : Nat) : List Int := (ys.set (j + 1) (ys.getD j 0)).set j (ys.getD (j + 1) 0)
theorem set_at {xs : List Int} {k : Nat} {v : Int} (hk : k < xs.length) (i : Nat) : (xs.set k v).getD i 0 = if i = k then v else xs.getD i 0 := by
  by_cases e : i = k
  · subst e; rw [if_pos rfl, getD_elem (by rw [List.length_set]; exact hk), List.getElem_set_self]
  · rw [if_neg e, List.getD, List.getD, List.getElem?_set_ne (by omega)]
theorem swap_get {ys : List Int} {j : Nat} (hj : j + 1 < ys.length) (i : Nat) : (swapL ys j).getD i 0 = if i = j then ys.getD (j + 1) 0 else if i = j + 1 then ys.getD j 0 else ys.getD i 0 := by
  unfold swapL; rw [set_at (by rw [List.length_set]; omega), set_at hj]
theorem swap_perm {ys : List Int} {j : Nat} (hj : j + 1 < ys.length) : (swapL ys j).Perm ys := by
  unfold swapL
  rw [getD_elem hj, getD_elem (show j < ys.length by omega)]
  exact List.set_set_perm (i := j + 1) (j := j) hj (by omega)
theorem swap_comm {ys : List Int} (j : Nat) : (ys.set j (ys.getD (j + 1) 0)).set (j + 1) (ys.getD j 0) = swapL ys j := List.set_comm _ _ (by omega)
theorem swap_ins {ys : List Int} {i j : Nat} (hj : j + 1 < ys.length) (hji : j + 1 ≤ i) (h : Ins ys i (j + 1)) (hs : ys.getD j 0 < ys.getD (j + 1) 0) : Ins (swapL ys j) i j := fun p q hp hq hn => by
  rw [swap_get hj, swap_get hj, if_neg hn]
  by_cases e1 : q = j + 1
  · subst e1
    rw [if_pos rfl]
    by_cases e2 : p = j
    · rw [if_pos e2]; omega
    · rw [if_neg e2, if_neg (by omega)]
      exact h p j (by omega) (by omega) (by omega)
  · rw [if_neg e1]
    by_cases e2 : p = j
    · rw [if_pos e2]; exact h (j + 1) q (by omega) hq e1
    · rw [if_neg e2]
      by_cases e3 : p = j + 1
      · rw [if_pos e3]; exact h j q (by omega) hq e1
      · rw [if_neg e3]; exact h p q hp hq e1
theorem srt_pairwise {ys : List Int} (h : Srt ys ys.length) : ys.Pairwise (fun a b => b ≤ a) := by
  rw [List.pairwise_iff_getElem]
  intro i j hi hj hij
  have := h i j hij hj
  rwa [getD_elem hi, getD_elem hj] at this

/-- What sorting leaves. -/
def Sorts (w : World) (B g n cap : Nat) (xs : List Int) (e : Ending) (w' : World) : Prop :=
  e = .returned (.tuple #[]) ∧ ∃ ys, ys.Perm xs ∧ ys.Pairwise (fun a b => b ≤ a) ∧ OwnI w' B (some ⟨g, 0, none⟩) n cap ys ∧ w.grownBy w' (some g)
theorem grown_drewN {w w' : World} {r : Option Nat} (h : w.grownBy w' r) (n : Nat) : w.grownBy (w'.drewN n) r := ⟨h.os, h.tape, h.output, h.size, h.block⟩

theorem own_swap {w : World} {B g n cap m : Nat} {zs : List Int} {x y : Int} (h : OwnI w B (some ⟨g, 0, none⟩) n cap zs) (hx : zs.getD (m + 1) 0 = x) (hy : zs.getD m 0 = y) : Hid (OwnI ((w.drew.setCell ⟨g, m + 1, none⟩ (.int .i64 y)).setCell ⟨g, m, none⟩ (.int .i64 x)) B (some ⟨g, 0, none⟩) n cap (swapL zs m)) := by
  subst hx hy
  exact ((h.bel ((Below.refl _ _).drew)).set (m + 1) _).set m _
theorem own_swap_grown {w w2 : World} {g m : Nat} {x y : Int} (h : w.grownBy w2 (some g)) : Hid (w.grownBy ((w2.drew.setCell ⟨g, m + 1, none⟩ (.int .i64 y)).setCell ⟨g, m, none⟩ (.int .i64 x)) (some g)) :=
  grown_set (grown_set (grown_drewN h 1))

set_option maxHeartbeats 2000000 in
theorem insertion_lib (B g n cap : Nat) (xs : List Int) (w : World) (h : OwnI w B (some ⟨g, 0, none⟩) n cap xs) (hn : n ≤ 12) :
    Calls Try.prog 88 #[.slice (some ⟨g, 0, none⟩) n cap, .int .i64 0, .int .i64 n, .func (.func 78) #[] #[]] w (Sorts w B g n cap xs) := by
  have hl := h.len
  have H := Lib.hid h
  clear h
  go_enter Try.func88, Try.ntmps88
  go_wp2_with fail
  go_loopw [8] (fun i wr => ∃ (k : Nat) (ys : List Int), 1 ≤ k ∧ (k ≤ n ∨ k = 1) ∧ i = .int .i64 k ∧ Hid (Srt ys k) ∧ Hid (ys.Perm xs) ∧ Hid (OwnI wr B (some ⟨g, 0, none⟩) n cap ys) ∧ Hid (w.grownBy wr (some g))) (fun i _ => n + 1 - (intOf i).toNat)
  case atStart => exact ⟨1, xs, by omega, by omega, rfl, fun p q hp hq => absurd hp (by omega), .refl _, H, World.grownBy.refl _ _⟩
  case round =>
    obtain ⟨k, ys, hk1, hkn, rfl, hS, hP, hO, hG⟩ := hrel
    obtain ⟨wo, rfl⟩ : ∃ wo : World, wo = wr := ⟨_, rfl⟩
    by_cases hlt : k < n
    · go_wp2_with fail
      go_loopw [9] (fun i wr => ∃ (j : Nat) (zs : List Int), j ≤ k ∧ i = .int .i64 j ∧ Hid (Ins zs k j) ∧ Hid (zs.Perm xs) ∧ Hid (OwnI wr B (some ⟨g, 0, none⟩) n cap zs) ∧ Hid (w.grownBy wr (some g))) (fun i _ => (intOf i).toNat)
      case atStart => exact ⟨k, ys, Nat.le_refl _, rfl, ins_start hS.out, hP, hO, hG⟩
      case round =>
        obtain ⟨j, zs, hjk, rfl, hI, hP2, hO2, hG2⟩ := hrel
        clear hS hP hO hG H
        have lz := hO2.out.len
        by_cases h0 : j = 0
        · subst h0
          go_wp2_with fail
          go_quiet (fail)
          go_wp2_with fail
          exact ⟨⟨k + 1, zs, by omega, by omega, by go_num, ins_zero hI.out, hP2, hO2.out.bel (below_drewN (Below.refl _ _) _), grown_drewN hG2.out _⟩, by simp [intOf]; omega⟩
        · obtain ⟨m, rfl⟩ : ∃ m, j = m + 1 := ⟨j - 1, by omega⟩
          have hc := own_cell hO2.out (i := m + 1) (by omega)
          have hc' := own_cell hO2.out (i := m) (by omega)
          obtain ⟨x, hx⟩ : ∃ x, zs.getD (m + 1) 0 = x := ⟨_, rfl⟩
          obtain ⟨y, hy⟩ : ∃ y, zs.getD m 0 = y := ⟨_, rfl⟩
          rw [hx] at hc
          rw [hy] at hc'
          have i1 : IntKind.i64.wrap ((m : Int) + 1 - 1) = (m : Int) := by rw [IntKind.wrap_i64]; omega
          have i2 : ((m : Int) + 1).toNat = m + 1 := by omega
          by_cases hyx : y < x
          · have ht := cmpI_yes hyx
            go_wp2_with fail
            go_quiet ((go_at_call 78; exact Calls.quiet_of_same (st (desc_any _ _ _))))
            have hO3 := hO2.out.bel (below_drewN (Below.refl _ _) nq)
            have hG3 := grown_drewN hG2.out nq
            generalize wr.drewN nq = w2 at hO3 hG3 ⊢
            have hc := own_cell hO3 (i := m + 1) (by omega)
            have hc' := own_cell hO3 (i := m) (by omega)
            rw [hx] at hc
            rw [hy] at hc'
            have hf := hO3.frozen (m + 1)
            have hf' := hO3.frozen m
            have hO3 := Lib.hid hO3
            have hG3 := Lib.hid hG3
            have hI2 := Lib.hid (swap_ins (by omega) hjk hI.out (show zs.getD m 0 < zs.getD (m + 1) 0 by omega))
            have hP3 := Lib.hid ((swap_perm (ys := zs) (j := m) (by omega)).trans hP2.out)
            clear hO2 hG2 hI hP2 hyx ht
            go_wp2_with fail
            go_region
            all_goals
              go_wp2_with fail
              exact ⟨⟨m, swapL zs m, by omega, by go_num, hI2, hP3, own_swap hO3.out hx hy, own_swap_grown hG3.out⟩, by simp [intOf]⟩
          · have ht := cmpI_no hyx
            go_wp2_with fail
            go_quiet ((go_at_call 78; exact Calls.quiet_of_same (st (desc_any _ _ _))))
            go_wp2_with fail
            exact ⟨⟨k + 1, zs, by omega, by omega, by go_num, ins_stop hI.out (by omega), hP2, hO2.out.bel (below_drewN (Below.refl _ _) _), grown_drewN hG2.out _⟩, by simp [intOf]; omega⟩
    · go_wp2_with fail
      go_end0
      exact ⟨rfl, ys, hP.out, srt_pairwise (fun p q hp hq => hS.out p q hp (by have := hO.out.len; omega)), hO.out, hG.out⟩

set_option maxHeartbeats 1000000 in
set_option maxRecDepth 100000 in
theorem len64_any (x : Int) (w : World) (h0 : 0 ≤ x) (h1 : x ≤ 12) : Calls Try.prog 97 #[.int .u64 x] w fun e w' => (∃ l : Int, e = .returned (.int .i64 l)) ∧ w = w' := by
  go_enter Try.func97, Try.ntmps97
  go_wp2
  go_ret
  exact ⟨⟨_, rfl⟩, rfl⟩
theorem len_any (n : Nat) (w : World) (h : n ≤ 12) : Calls Try.prog 83 #[.int .u64 n] w fun e w' => (∃ l : Int, e = .returned (.int .i64 l)) ∧ w = w' := by
  have hc := fun w => len64_any n w (by omega) (by omega)
  go_enter Try.func83, Try.ntmps83
  go_wp2_with fail
  refine (hc _).mono ?_
  rintro e w' ⟨⟨l, rfl⟩, rfl⟩
  go_wp2_with fail
  go_ret
  exact ⟨⟨_, rfl⟩, rfl⟩

set_option maxHeartbeats 800000 in
theorem pdq_lib (B g n cap : Nat) (l : Int) (xs : List Int) (w : World) (h : OwnI w B (some ⟨g, 0, none⟩) n cap xs) (hn : n ≤ 12) :
    Calls Try.prog 82 #[.slice (some ⟨g, 0, none⟩) n cap, .int .i64 0, .int .i64 n, .int .i64 l, .func (.func 78) #[] #[]] w (Sorts w B g n cap xs) := by
  have hi := insertion_lib B g n cap xs w h hn
  clear h
  go_enter Try.func82, Try.ntmps82
  go_wp2_with fail
  refine wp_loop_rounds 1 ?_
  rw [rounds_succ]
  go_wp2_with fail
  refine hi.mono ?_
  rintro e w' ⟨rfl, hh⟩
  have hh := Lib.hid hh
  go_wp2_with fail
  (try simp only [Exit.inBlock, Exit.then])
  refine bodyPost_ret (results_none rfl _ _ _) rfl ?_
  exact ⟨rfl, hh.out⟩

set_option maxHeartbeats 800000 in
theorem sortFunc_lib (B g n cap : Nat) (xs : List Int) (w : World) (h : OwnI w B (some ⟨g, 0, none⟩) n cap xs) (hn : n ≤ 12) :
    Calls Try.prog 77 #[.slice (some ⟨g, 0, none⟩) n cap, .func (.func 78) #[] #[]] w (Sorts w B g n cap xs) := by
  have hi := fun l => pdq_lib B g n cap l xs w h hn
  have hc := len_any n w hn
  clear h
  go_enter Try.func77, Try.ntmps77
  go_wp2_with fail
  refine hc.mono ?_
  rintro e w' ⟨⟨l, rfl⟩, rfl⟩
  go_wp2_with fail
  refine (hi l).mono ?_
  rintro e w' ⟨rfl, hh⟩
  have hh := Lib.hid hh
  go_wp2_with fail
  go_end0
  exact ⟨rfl, hh.out⟩
end Go.Proofs.Yteadibgjieimkaa

