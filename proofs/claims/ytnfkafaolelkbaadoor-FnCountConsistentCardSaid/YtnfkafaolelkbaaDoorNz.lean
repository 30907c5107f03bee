/-
  The contracts of SumsUnique, of the program and of the model.
-/
import Derived.Test.YtnfkafaolelkbaaDoorNd
import Derived.Test.YtnfkafaolelkbaaDoorPa
import Derived.Test.YtnfkafaolelkbaaDoorCe
namespace Go.Proofs.YtnfkafaolelkbaaDoor
set_option maxRecDepth 100000
open Go.RowKit

set_option maxHeartbeats 400000 in
theorem same_part (a a' : Option Addr) (n m cap cap' : Nat) (xs ys : List Int) (w : World) (h : Row w a n xs) (h' : Row w a' m ys) (hm : n ≤ 9223372036854775807) (hm' : m ≤ 9223372036854775807) :
    Calls Tryd.prog 20 #[.slice a n cap, .slice a' m cap'] w fun e w' => e = .returned (.bool (decide (xs = ys))) ∧ Below w.heap.size w w' := by
  by_cases hnm : n = m
  case neg =>
    rw [lists_len (by rw [h.1, h'.1]; exact hnm)]
    have hb : ((n : Int) != (m : Int)) = true := by rw [bne_iff_ne]; omega
    clear h h'
    go_enter Tryd.func20, Tryd.ntmps20
    go_wp2
    go_ret
    exact ⟨rfl, Below.refl _ _⟩
  subst hnm
  have hR := Lib.hid h
  have hR' := Lib.hid h'
  clear h h'
  go_enter Tryd.func20, Tryd.ntmps20
  go_wp2
  go_loopw [13] (fun i wr => ∃ k : Nat, k ≤ n ∧ i = .int .i64 k ∧ Hid (∀ j, j < k → xs.getD j 0 = ys.getD j 0) ∧ Below w.heap.size w wr) (fun i _ => n - (intOf i).toNat)
  case atStart => exact ⟨0, Nat.zero_le _, rfl, fun j hj => absurd hj (Nat.not_lt_zero _), Below.refl _ _⟩
  case round =>
    obtain ⟨k, hk, rfl, he, hbel⟩ := hrel
    by_cases hlt : k < n
    · obtain ⟨b, off, rfl, hc⟩ := row_at hR.out hlt
      obtain ⟨b', off', rfl, hc'⟩ := row_at hR'.out hlt
      have hc := kept hbel (block_lt hc) hc
      have hc' := kept hbel (block_lt hc') hc'
      by_cases hxy : xs.getD k 0 = ys.getD k 0
      · have he' : Hid (∀ j, j < k + 1 → xs.getD j 0 = ys.getD j 0) := fun j hj => by
          by_cases e : j = k
          · subst e; exact hxy
          · exact he.out j (by omega)
        rw [← hxy] at hc'
        clear hxy
        generalize xs.getD k 0 = x at hc hc'
        go_wp2
        go_quiet (fail)
        go_wp2
        exact ⟨⟨k + 1, by omega, by go_num, he', below_drewN hbel _⟩, by simp [intOf]; omega⟩
      · have hno := Lib.hid (lists_ne hxy)
        generalize xs.getD k 0 = x at hc hxy
        generalize ys.getD k 0 = y at hc' hxy
        go_wp2
        go_quiet (fail)
        go_wp2
        go_ret
        exact ⟨by rw [hno.out]; rfl, below_drewN hbel _⟩
    · have : k = n := by omega
      subst this
      go_wp2
      go_ret
      exact ⟨by rw [decide_eq_true (lists_ext hR.out.1 hR'.out.1 he.out)]; rfl, hbel⟩

theorem bel_refl {xs : List Int} (h : Par xs) : belowB xs xs = true := below_yes h.valid h.valid (fun _ _ => Int.le_refl _) rfl
theorem uniqs_no {xs ys : List Int} (h : sumsB xs ys = false) : uniqS xs ys = false := by unfold uniqS; rw [conB_no h]; rfl
theorem uniqs_eq {xs ys : List Int} (h : sumsB xs ys = true) : decide (sortL ys = conjL (sortL xs) ys.length) = uniqS xs ys := by
  unfold uniqS
  rw [conB_in h, Bool.eq_iff_iff, Bool.and_eq_true, decide_eq_true_iff]
  constructor
  · intro e
    refine ⟨?_, e⟩
    rw [← e]; exact bel_refl (sort_par (sums_el h).2)
  · intro e; exact e.2
theorem uniqs_con_eq {xs ys : List Int} (h : conB xs ys = true) : decide (sortL ys = conjL (sortL xs) ys.length) = uniqS xs ys := uniqs_eq (conB_valid h)
theorem uniqs_not {xs ys : List Int} (h : conB xs ys = false) : uniqS xs ys = false := by unfold uniqS; rw [h]; rfl
theorem sort_bd {xs ys : List Int} (h : sumsB xs ys = true) : ∀ i, i < (sortL xs).length → (sortL xs).getD i 0 ≤ ys.length := fun i hi => by
  have hx := (sums_el h).1
  rw [getD_elem hi]
  have hm := (sort_perm hx).mem_iff.1 (List.getElem_mem hi)
  obtain ⟨j, hj, e⟩ := List.getElem_of_mem hm
  simp only [sumsB, Bool.and_eq_true] at h
  have := (allIn_iff.1 h.2.2.1 j hj).2
  rw [getD_elem hj] at this; omega
set_option maxHeartbeats 1600000 in
theorem su_impl (a a' : Option Addr) (n m cap cap' : Nat) (xs ys : List Int) (w : World) (h : Row w a n xs) (h' : Row w a' m ys) (hm : n ≤ 9223372036854775807) (hm' : m ≤ 9223372036854775807) :
    Calls Tryd.prog 8 #[.slice a n cap, .slice a' m cap'] w fun e w' => e = .returned (.bool (uniqS xs ys)) ∧ Below w.heap.size w w' := by
  have hs := sumsValid_impl a a' n m cap cap' xs ys w h h' hm hm'
  by_cases hv : sumsB xs ys = true
  case neg =>
    have hv : sumsB xs ys = false := by simpa using hv
    rw [uniqs_no hv]
    rw [hv] at hs
    clear hv h h'
    go_enter Tryd.func8, Tryd.ntmps8
    go_wp2_with fail
    refine hs.mono ?_
    rintro e w1 ⟨rfl, rfl⟩
    go_wp2_with fail
    go_ret
    exact ⟨rfl, Below.refl _ _⟩
  have el := sums_el hv
  have lx := h.1
  have ly := h'.1
  have hn6 := (el_parts el.1).1
  have hm6 := (el_parts el.2).1
  have hu := uniqs_eq hv
  have hp := sort_par el.1
  have hbd := sort_bd hv
  rw [ly] at hbd hu
  rw [hv] at hs
  have l1 := (sort_len el.1).trans lx
  have l2 := (sort_len el.2).trans ly
  have c1 := Lib.hid (fun wx hx => ptOf_impl a' m cap' ys wx hx el.2)
  have c2 := Lib.hid (fun wx hx => ptOf_impl a n cap xs wx hx el.1)
  have c3 := Lib.hid (fun s c wx hx => mconj_impl s n c (sortL xs) m wx hx hp (by omega) hbd)
  obtain ⟨A, hA⟩ : ∃ A, sortL ys = A := ⟨_, rfl⟩
  obtain ⟨B, hB⟩ : ∃ B, sortL xs = B := ⟨_, rfl⟩
  rw [hA] at c1 hu
  rw [hB] at c2 c3 hu
  obtain ⟨C, hC⟩ : ∃ C, conjL B m = C := ⟨_, rfl⟩
  rw [hC] at c3 hu
  rw [lx] at hn6
  rw [ly] at hm6
  replace hu := Lib.hid hu
  have p := Lib.hid h
  have q := Lib.hid h'
  have bb : Hid (Below w.heap.size w w) := Lib.hid (Below.refl _ _)
  clear h h' hv el lx ly hp hbd l1 l2 hA hB hC
  go_enter Tryd.func8, Tryd.ntmps8
  go_wp2_with fail
  refine hs.mono ?_
  rintro e w1 ⟨rfl, rfl⟩
  clear hs
  go_wp2_with fail
  refine (c1.out _ q.out).mono ?_
  rintro e v2 ⟨⟨su, du, rfl, ho⟩, hb⟩
  have szv2 := hb.size
  replace p := Lib.hid (p.out.bel hb)
  replace q := Lib.hid (q.out.bel hb)
  replace bb := Lib.hid (bb.out.trans (hb.mono bb.out.size))
  have u := Lib.hid ho.row
  clear ho hb
  go_wp2_with fail
  refine (c2.out _ p.out).mono ?_
  rintro e v3 ⟨⟨sv, dv, rfl, ho⟩, hb⟩
  have szv3 := hb.size
  replace p := Lib.hid (p.out.bel hb)
  replace q := Lib.hid (q.out.bel hb)
  replace u := Lib.hid (u.out.bel hb)
  replace bb := Lib.hid (bb.out.trans (hb.mono bb.out.size))
  have v := Lib.hid ho.row
  clear ho hb
  go_wp2_with fail
  refine (c3.out _ _ _ v.out).mono ?_
  rintro e v4 ⟨⟨sz, dz, rfl, ho⟩, hb⟩
  have szv4 := hb.size
  replace p := Lib.hid (p.out.bel hb)
  replace q := Lib.hid (q.out.bel hb)
  replace u := Lib.hid (u.out.bel hb)
  replace v := Lib.hid (v.out.bel hb)
  replace bb := Lib.hid (bb.out.trans (hb.mono bb.out.size))
  have z := Lib.hid ho.row
  clear ho hb
  go_wp2_with fail
  refine (same_part _ _ _ _ _ _ A C _ u.out z.out (by omega) (by omega)).mono ?_
  rintro e v5 ⟨rfl, hb⟩
  have szv5 := hb.size
  replace p := Lib.hid (p.out.bel hb)
  replace q := Lib.hid (q.out.bel hb)
  replace u := Lib.hid (u.out.bel hb)
  replace v := Lib.hid (v.out.bel hb)
  replace z := Lib.hid (z.out.bel hb)
  replace bb := Lib.hid (bb.out.trans (hb.mono bb.out.size))
  clear hb
  go_wp2_with fail
  go_ret
  exact ⟨by rw [← hu.out]; rfl, bb.out⟩
end Go.Proofs.YtnfkafaolelkbaaDoor

