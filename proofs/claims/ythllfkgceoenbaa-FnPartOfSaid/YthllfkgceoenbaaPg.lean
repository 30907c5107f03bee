/-
  The contracts of the model's PartBelow, and of PartConj, of the program and of the model.
-/
import Derived.Test.YthllfkgceoenbaaPf
namespace Go.Proofs.Ythllfkgceoenbaa
open Go.RowKit

set_option maxHeartbeats 1600000 in
theorem below_spec (a a' : Option Addr) (n m cap cap' : Nat) (xs ys : List Int) (w : World) (h : Row w a n xs) (h' : Row w a' m ys) (hm : n ≤ 9223372036854775807) (hm' : m ≤ 9223372036854775807) :
    Calls Try.prog 34 #[.slice a n cap, .slice a' m cap'] w fun e w' => e = .returned (.bool (belowB xs ys)) ∧ Below w.heap.size w w' := by
  have hv := pvalid_spec a n cap xs w h hm
  have h := Lib.hid h
  have h' := Lib.hid h'
  by_cases hp : partB xs = true
  case neg =>
    have hp : partB xs = false := by simpa using hp
    rw [below_a hp]
    rw [hp] at hv
    clear hp
    go_enter Try.func34, Try.ntmps34
    go_wp2_with fail
    refine hv.mono ?_
    rintro e w1 ⟨rfl, hb⟩
    replace hb := Lib.hid hb
    go_wp2_with fail
    go_ret
    exact ⟨rfl, hb.out⟩
  have hP := Lib.hid (Par.of hp)
  rw [hp] at hv
  clear hp
  by_cases hp : partB ys = true
  case neg =>
    have hp : partB ys = false := by simpa using hp
    rw [below_b hp]
    have hp := Lib.hid hp
    go_enter Try.func34, Try.ntmps34
    go_wp2_with fail
    refine hv.mono ?_
    rintro e w1 ⟨rfl, hb⟩
    have hv2 := pvalid_spec a' m cap' ys w1 (h'.out.bel hb) hm'
    rw [hp.out] at hv2
    replace hb := Lib.hid hb
    go_wp2_with fail
    refine hv2.mono ?_
    rintro e w2 ⟨rfl, hb2⟩
    replace hb2 := Lib.hid hb2
    go_wp2_with fail
    go_ret
    exact ⟨rfl, hb.out.trans (hb2.out.mono hb.out.size)⟩
  have hP' := Lib.hid (Par.of hp)
  have hp := Lib.hid hp
  have hsm : Hid (∀ j, 0 ≤ psum xs j ∧ psum xs j ≤ 36) := hP.out.psum_36
  have hsm' : Hid (∀ j, 0 ≤ psum ys j ∧ psum ys j ≤ 36) := hP'.out.psum_36
  go_enter Try.func34, Try.ntmps34
  go_wp2_with fail
  refine hv.mono ?_
  rintro e w1 ⟨rfl, hb⟩
  have hv2 := pvalid_spec a' m cap' ys w1 (h'.out.bel hb) hm'
  rw [hp.out] at hv2
  replace hb := Lib.hid hb
  go_wp2_with fail
  refine hv2.mono ?_
  rintro e w2 ⟨rfl, hb2⟩
  replace h := Lib.hid ((h.out.bel hb.out).bel hb2)
  replace h' := Lib.hid ((h'.out.bel hb.out).bel hb2)
  have bb := Lib.hid (hb.out.trans (hb2.mono hb.out.size))
  clear hb hb2 hv hv2
  have e1 := l3sum_spec a n cap xs 6 w2 h.out hP.out (by omega)
  have e2 := l3sum_spec a' m cap' ys 6 w2 h'.out hP'.out (by omega)
  rw [show (6 : Int).toNat = 6 from rfl] at e1 e2
  by_cases hxy : psum xs 6 = psum ys 6
  case neg =>
    have hno := Lib.hid (below_s hxy)
    have hne : (psum xs 6 != psum ys 6) = true := by simpa using hxy
    clear hxy
    generalize psum xs 6 = x at e1 hne
    generalize psum ys 6 = y at e2 hne
    go_wp2_with fail
    refine e1.mono ?_
    rintro e w1 ⟨rfl, rfl⟩
    go_wp2_with fail
    refine e2.mono ?_
    rintro e w1 ⟨rfl, rfl⟩
    go_wp2_with fail
    go_ret
    exact ⟨by rw [hno.out]; rfl, bb.out⟩
  rw [← hxy] at e2
  have hxy := Lib.hid hxy
  generalize psum xs 6 = x at e1 e2
  go_wp2_with fail
  refine e1.mono ?_
  rintro e w3 ⟨rfl, rfl⟩
  go_wp2_with fail
  refine e2.mono ?_
  rintro e w3 ⟨rfl, rfl⟩
  clear e1 e2
  go_wp2_with fail
  go_loop [5] (fun i => ∃ k : Nat, k ≤ 7 ∧ i = .int .i64 k ∧ Hid (∀ j, j < k → psum xs j ≤ psum ys j)) (fun i => 7 - (intOf i).toNat)
  case atStart => exact ⟨0, Nat.zero_le _, rfl, fun j hj => absurd hj (Nat.not_lt_zero _)⟩
  case round =>
    obtain ⟨k, hk, rfl, he⟩ := hrel
    by_cases hlt : k < 7
    · have e1 := l3sum_spec a n cap xs (k : Int) w2 h.out hP.out (by omega)
      have e2 := l3sum_spec a' m cap' ys (k : Int) w2 h'.out hP'.out (by omega)
      rw [Int.toNat_natCast] at e1 e2
      have b1 := hsm.out k
      have b2 := hsm'.out k
      by_cases hxy : psum ys k < psum xs k
      · have hno := Lib.hid (below_k (show k < 7 by omega) hxy)
        generalize psum xs k = x at e1 b1 hxy
        generalize psum ys k = y at e2 b2 hxy
        go_wp2_with fail
        refine e1.mono ?_
        rintro e w1 ⟨rfl, rfl⟩
        go_wp2_with fail
        refine e2.mono ?_
        rintro e w1 ⟨rfl, rfl⟩
        go_wp2_with fail
        go_ret
        exact ⟨by rw [hno.out]; rfl, bb.out⟩
      · have he' : Hid (∀ j, j < k + 1 → psum xs j ≤ psum ys j) := fun j hj => by
          by_cases e : j = k
          · subst e; omega
          · exact he.out j (by omega)
        generalize psum xs k = x at e1 b1 hxy
        generalize psum ys k = y at e2 b2 hxy
        go_wp2_with fail
        refine e1.mono ?_
        rintro e w1 ⟨rfl, rfl⟩
        go_wp2_with fail
        refine e2.mono ?_
        rintro e w1 ⟨rfl, rfl⟩
        go_wp2_with fail
        exact ⟨⟨k + 1, by omega, by go_num, he'⟩, by simp [intOf]; omega⟩
    · have : k = 7 := by omega
      subst this
      have hyes := Lib.hid (below_yes hP.out.valid hP'.out.valid (fun k hk => he.out k (by omega)) hxy.out)
      go_wp2_with fail
      go_ret
      exact ⟨by rw [hyes.out]; rfl, bb.out⟩

/-- How many of the first j elements are at least i + 1. -/
def cjI (xs : List Int) (j i : Nat) : Int := sumI (fun t => if (i : Int) + 1 ≤ xs.getD t 0 then 1 else 0) j
theorem cj_bd (xs : List Int) (j i : Nat) : 0 ≤ cjI xs j i ∧ cjI xs j i ≤ j := sum_bd (fun t => by (try dsimp only); split <;> omega) _
theorem cj_all (xs : List Int) (i : Nat) : cjI xs xs.length i = cge xs ((i : Int) + 1) := rfl
/-- The conjugate while it is made: j elements are counted, and k of the next one. -/
def cjL (xs : List Int) (n j k : Nat) : List Int := rowsL (fun i => cjI xs j i + if i < k then 1 else 0) n
theorem cjL_len (xs : List Int) (n j k : Nat) : (cjL xs n j k).length = n := rows_len _ _
theorem cjL_zero (xs : List Int) (n : Nat) : cjL xs n 0 0 = List.replicate n 0 := by
  rw [← rows_zero]; exact rows_ext fun _ _ => by rw [if_neg (by omega)]; rfl
theorem cjL_get (xs : List Int) {n j k : Nat} (hk : k < n) : (cjL xs n j k).getD k 0 = cjI xs j k := by
  rw [show (cjL xs n j k).getD k 0 = _ from rows_get _ hk, if_neg (by omega)]; omega
theorem cjL_set (xs : List Int) {n j k : Nat} (hk : k < n) : (cjL xs n j k).set k (cjI xs j k + 1) = cjL xs n j (k + 1) :=
  rows_set _ _ hk (by rw [if_pos (by omega)]) fun i _ hne => by
    by_cases e : i < k
    · rw [if_pos (by omega), if_pos e]
    · rw [if_neg (by omega), if_neg e]
theorem cjL_next (xs : List Int) {n j k : Nat} (hk : xs.getD j 0 = k) : cjL xs n j k = cjL xs n (j + 1) 0 := rows_ext fun i _ => by
  rw [show cjI xs (j + 1) i = cjI xs j i + if (i : Int) + 1 ≤ xs.getD j 0 then 1 else 0 from rfl, hk]
  by_cases e : i < k
  · rw [if_pos e, if_pos (by omega), if_neg (by omega)]; omega
  · rw [if_neg e, if_neg (by omega), if_neg (by omega)]; omega
theorem cjL_full (xs : List Int) (n : Nat) : cjL xs n xs.length 0 = conjL xs n := rows_ext fun i _ => by
  rw [if_neg (by omega), cj_all]; omega

set_option maxHeartbeats 1600000 in
theorem mconj_impl (a : Option Addr) (m cap : Nat) (xs : List Int) (n : Nat) (w : World) (h : Row w a m xs) (hP : Par xs) (hn : n ≤ 6) (hb : ∀ i, i < xs.length → xs.getD i 0 ≤ n) :
    Calls Try.prog 51 #[.slice a m cap, .int .i64 n] w (GivesK w n (conjL xs n)) := by
  have hl := h.1
  have hm := hP.l
  rw [hl] at hm
  obtain ⟨i0, hi, hz0, hz1, hz2⟩ := info_parts infoInt
  have hbd := Lib.hid hP.bd'
  have hb := Lib.hid hb
  have hcb : Hid (∀ j i, 0 ≤ cjI xs j i ∧ cjI xs j i ≤ j) := fun j i => cj_bd xs j i
  have h := Lib.hid h
  go_enter Try.func51, Try.ntmps51
  go_wp2_with ((refine wpList_make_full w rfl _ _ 46 rfl w.heap.size 3 i0 (.int .i64 0) 1 Try.underlying46 hi hz0 hz1 .i64 .i64 n n n rfl rfl rfl rfl ?_ ?_ (Nat.le_refl _) ?_))
  all_goals first | (rw [hz2]; omega) | (unfold maxLen; omega) | skip
  intro w1 ho hg
  have ho0 : OwnI w1 w.heap.size (some ⟨w.heap.size, 0, none⟩) n n (cjL xs n 0 0) := by
    rw [cjL_zero]; unfold OwnI; simpa [toList_madeCells_one, List.map_replicate] using ho
  have hb1 : Below w.heap.size w w1 := (Below.refl _ _).grown hg (Nat.le_refl _) (fun k hk => by cases hk)
  have ho0 := Lib.hid ho0
  replace hb1 := Lib.hid hb1
  clear ho hg
  go_wp2_with fail
  generalize hgw : w.heap.size = g at *
  go_loopw [13] (fun i wr => ∃ j : Nat, j ≤ m ∧ i = .int .i64 j ∧ Hid (Below g w wr) ∧ Hid (OwnI wr g (some ⟨g, 0, none⟩) n n (cjL xs n j 0))) (fun i _ => m - (intOf i).toNat)
  case atStart => exact ⟨0, Nat.zero_le _, rfl, hb1, ho0⟩
  case round =>
    obtain ⟨j, hj, rfl, hB, hO⟩ := hrel
    obtain ⟨wo, rfl⟩ : ∃ wo : World, wo = wr := ⟨_, rfl⟩
    clear hb1 ho0
    by_cases hlt : j < m
    · obtain ⟨b, off, rfl, hc⟩ := row_at (h.out.bel (by rw [hgw]; exact hB.out)) hlt
      have hx := hbd.out j
      have hx2 := hb.out j (by omega)
      obtain ⟨x, hxe⟩ : ∃ x : Nat, xs.getD j 0 = x := ⟨(xs.getD j 0).toNat, by omega⟩
      have hnx := Lib.hid (cjL_next (xs := xs) (n := n) hxe)
      rw [hxe] at hc hx hx2
      clear hxe
      go_wp2_with fail
      go_loopw [18] (fun i wr => ∃ k : Nat, k ≤ x ∧ i = .int .i64 k ∧ Hid (Below g w wr) ∧ Hid (OwnI wr g (some ⟨g, 0, none⟩) n n (cjL xs n j k))) (fun i _ => x - (intOf i).toNat)
      case atStart => exact ⟨0, Nat.zero_le _, rfl, hB, hO⟩
      case round =>
        obtain ⟨k, hk, rfl, hB2, hO2⟩ := hrel
        clear hB hO hc
        by_cases hlk : k < x
        · have hcj := hcb.out j k
          have hcell := own_cell hO2.out (i := k) (by omega)
          rw [cjL_get xs (by omega)] at hcell
          have hfz := hO2.out.frozen k
          have hst := hO2.out.set k (cjI xs j k + 1)
          rw [cjL_set xs (by omega)] at hst
          have hbs := hB2.out.setCell (show g ≤ (⟨g, k, none⟩ : Addr).block by simp) (.int .i64 (cjI xs j k + 1))
          generalize cjI xs j k = q at hcj hcell hst hbs
          replace hst := Lib.hid hst
          replace hbs := Lib.hid hbs
          clear hO2 hB2
          go_wp2_with fail
          exact ⟨⟨k + 1, by omega, by go_num, hbs, hst⟩, by simp [intOf]; omega⟩
        · have : k = x := by omega
          subst this
          rw [hnx.out] at hO2
          go_wp2_with fail
          exact ⟨⟨j + 1, by omega, by go_num, hB2, hO2⟩, by simp [intOf]; omega⟩
    · have : j = m := by omega
      subst this
      rw [← hl, cjL_full] at hO
      subst hgw
      go_wp2_with fail
      go_ret
      exact ⟨⟨_, _, rfl, hO.out⟩, hB.out⟩
end Go.Proofs.Ythllfkgceoenbaa

