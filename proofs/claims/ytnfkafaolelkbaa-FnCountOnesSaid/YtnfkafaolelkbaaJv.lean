/-
  The model's l15Take, l15Ways and SumsCount.
-/
import Derived.Test.YtnfkafaolelkbaaJa
import Derived.Test.YtnfkafaolelkbaaK
import Derived.Test.YtnfkafaolelkbaaPa
import Derived.Test.YtnfkafaolelkbaaJs
namespace Go.Proofs.Ytnfkafaolelkbaa
set_option maxRecDepth 100000
open Go.RowKit

/-- The first sums have a row taken away. -/
def takK (cols : List Int) (m : Int) (j : Nat) : List Int := rowsL (fun q => cols.getD q 0 - if q < j then bitI m q else 0) cols.length
theorem tak_len (cols : List Int) (m : Int) (j : Nat) : (takK cols m j).length = cols.length := rows_len ..
theorem tak_zero (cols : List Int) (m : Int) : takK cols m 0 = cols := by
  apply List.ext_getElem (tak_len ..)
  intro i h1 h2
  have := rows_get (fun q => cols.getD q 0 - if q < 0 then bitI m q else 0) h2
  rw [getD_elem (by rw [rows_len]; exact h2)] at this
  simp [takK, rowsL, h2]
theorem tak_all (cols : List Int) (m : Int) : takK cols m cols.length = takeI cols m := rows_ext fun i hi => by rw [if_pos hi]
theorem tak_get {cols : List Int} (m : Int) {j : Nat} (hj : j < cols.length) : (takK cols m j).getD j 0 = cols.getD j 0 := by
  rw [show (takK cols m j).getD j 0 = _ from rows_get _ hj]; simp
theorem tak_set {cols : List Int} (m : Int) {j : Nat} (_ : j < cols.length) : (takK cols m j).set j (cols.getD j 0 - bitI m j) = takK cols m (j + 1) := by
  apply List.ext_getElem (by rw [List.length_set, tak_len, tak_len])
  intro i h1 h2
  rw [tak_len] at h2
  have e1 : (takK cols m (j + 1))[i]'(by rw [tak_len]; exact h2) = cols.getD i 0 - if i < j + 1 then bitI m i else 0 := by rw [← getD_elem]; exact rows_get _ h2
  have e2 : (takK cols m j)[i]'(by rw [tak_len]; exact h2) = cols.getD i 0 - if i < j then bitI m i else 0 := by rw [← getD_elem]; exact rows_get _ h2
  rw [e1]
  by_cases e : j = i
  · subst e; rw [List.getElem_set_self, if_pos (by omega)]
  · rw [List.getElem_set_ne e, e2]
    by_cases e3 : i < j
    · rw [if_pos e3, if_pos (by omega)]
    · rw [if_neg e3, if_neg (by omega)]
set_option maxHeartbeats 3200000 in
theorem take_spec (a : Option Addr) (n cap : Nat) (cols : List Int) (m : Int) (w : World) (h : Row w a n cols) (h1 : 1 ≤ n) (h6 : n ≤ 6) (hb : ∀ j, j < n → 0 ≤ cols.getD j 0 ∧ cols.getD j 0 ≤ 6) (hm0 : 0 ≤ m) (hm : m ≤ 63) :
    Calls Try.prog 67 #[.slice a n cap, .int .i64 m] w fun e w' =>
      ((takeB cols m = true ∧ ∃ g c, e = .returned (.tuple #[.slice (some ⟨g, 0, none⟩) n c, .bool true]) ∧ OwnI w' w.heap.size (some ⟨g, 0, none⟩) n c (takeI cols m)) ∨ (takeB cols m = false ∧ ∃ g c, e = .returned (.tuple #[.slice (some ⟨g, 0, none⟩) n c, .bool false]))) ∧ Below w.heap.size w w' := by
  have hl := h.1
  obtain ⟨ba, bo, rfl, _⟩ := row_at h (show 0 < n by omega)
  have hnw := Lib.hid (row_news h (by omega))
  obtain ⟨i0, hi, hz0, hz1, hz2⟩ := info_parts infoInt
  have hset := Lib.hid (fun j (hj : j < n) => tak_set (cols := cols) m (j := j) (by omega))
  have hget := Lib.hid (fun j (hj : j < n) => tak_get (cols := cols) m (j := j) (by omega))
  have hlen := Lib.hid (fun j => tak_len cols m j)
  have hall := tak_all cols m
  have htB : Hid ((∀ j, j < n → bitI m j ≤ cols.getD j 0) → takeB cols m = true) := fun hh => decide_eq_true (by rw [hl]; exact hh)
  have htN : Hid (∀ j, j < n → ¬ bitI m j ≤ cols.getD j 0 → takeB cols m = false) := fun j hj hh => decide_eq_false (fun h2 => hh (h2 j (by omega)))
  have cb := Lib.hid (fun j (hj : j < n) wx => bit_any m j wx hm0 (by omega) (by omega))
  have hb1 := Lib.hid (fun j => bit_01 m j)
  have hbd := Lib.hid hb
  rw [hl] at hall
  have hzero := tak_zero cols m
  clear h hb
  go_enter Try.func67, Try.ntmps67
  go_wp2_with (at_builtin; refine wpList_append_own _ rfl _ _ 23 rfl w.heap.size 3 i0 (.int .i64 0) 1 8 Try.underlying23 hi hz0 hz1 hz2 rfl (by decide) _ 0 [] rfl (World.ownsRow_lit w #[] 0 (Nat.le_refl _) (by decide) rfl) ⟨ba, bo, none⟩ n cap (cols.map (Value.int .i64)) rfl (by rw [List.length_map]; omega) (fun j u hj => World.cell?_alloc_some (hnw.out j u hj)) (ints_oneCell _ _) (by unfold maxLen; omega) (by omega) (by simp) ?_)
  intro v' w1 hown hgr hnil
  obtain ⟨ax, cx, rfl, ho⟩ := own_of (xs := cols) (n := n) (by simpa using hown)
  obtain ⟨g, rfl⟩ : ∃ g, ax = some ⟨g, 0, none⟩ := by
    rcases ho.cases with ⟨_, h, _⟩ | ⟨g, h, _⟩
    · omega
    · exact ⟨g, h⟩
  have hb : Hid (Below w.heap.size w w1) := ((Below.refl _ _).alloc (Nat.le_refl _) _).grown hgr (by simp) (fun k hk => by simp [Value.ownBlock] at hk; omega)
  have hgg : w.heap.size ≤ g := (rng_own ho _ rfl).1
  have hO : Hid (OwnI w1 w.heap.size (some ⟨g, 0, none⟩) n cx (takK cols m 0)) := by rw [hzero]; exact ho
  have hP : Hid (∀ q, q < 0 → bitI m q ≤ cols.getD q 0) := fun q hq => by omega
  clear hown hgr hnil hnw hi hz0 hz1 hz2 ho hzero
  go_wp2_with fail
  go_loopw [7] (fun i wr => ∃ j : Nat, j ≤ n ∧ i = .int .i64 j ∧ Hid (OwnI wr w.heap.size (some ⟨g, 0, none⟩) n cx (takK cols m j)) ∧ Hid (∀ q, q < j → bitI m q ≤ cols.getD q 0) ∧ Hid (Below w.heap.size w wr)) (fun i _ => n - (intOf i).toNat)
  case atStart => exact ⟨0, Nat.zero_le _, rfl, hO, hP, hb⟩
  case round =>
    clear hO hP hb
    obtain ⟨j, hj, rfl, hO, hP, hb⟩ := hrel
    obtain ⟨wo, rfl⟩ : ∃ wo : World, wo = wr := ⟨_, rfl⟩
    have hlj := hlen.out j
    by_cases hlt : j < n
    · obtain ⟨W2, hW2⟩ : ∃ W2, wo.drew = W2 := ⟨_, rfl⟩
      have hb2 : Below wo.heap.size wo W2 := by rw [← hW2]; exact (Below.refl _ _).drew
      have hO2 := hO.out.bel hb2
      have hc := own_cell hO2 hlt
      rw [hget.out j hlt] at hc
      have hf := hO2.frozen
      have hs := hset.out j hlt
      have cbj := Lib.hid (cb.out j hlt)
      have hbj := hb1.out j
      have hcj := hbd.out j hlt
      have hPj := Lib.hid (htN.out j hlt)
      obtain ⟨v, hv⟩ : ∃ v, cols.getD j 0 = v := ⟨_, rfl⟩
      obtain ⟨u, hu⟩ : ∃ u, bitI m j = u := ⟨_, rfl⟩
      rw [hv] at hc hs hcj hPj
      rw [hu] at hs cbj hbj hPj
      have hO3 := hO2.set j (v - u)
      rw [hs] at hO3
      have hc3 := own_cell hO3 hlt
      have hce : (takK cols m (j + 1)).getD j 0 = v - u := by rw [← hs]; simp [show j < (takK cols m j).length by rw [hlen.out]; omega]
      rw [hce] at hc3
      have hB3 := (hb.out.trans (hb2.mono hb.out.size)).setCell (show w.heap.size ≤ (⟨g, j, none⟩ : Addr).block from hgg) (.int .i64 (v - u))
      replace hO3 := Lib.hid hO3
      replace hB3 := Lib.hid hB3
      replace hs := Lib.hid hs
      replace hce := Lib.hid hce
      replace hv := Lib.hid hv
      replace hu := Lib.hid hu
      have hw1 : IntKind.i64.wrap (v - u) = v - u := IntWalk.i64_in _ ⟨by omega, by omega⟩
      clear hO2 hO hb hb2 hlj
      go_wp2_with fail
      refine region_tail 11 (by kernel_rfl) (by kernel_rfl) W2 hW2 ?_
      simp only [List.take_succ_cons, List.take_zero, List.drop_succ_cons, List.drop_zero]
      clear hW2
      repeat (first | still_step | still_call (st (cbj.out _)))
      refine wpStill_nil ?_
      by_cases hneg : v - u < 0
      · have hfl := hPj.out (by omega)
        replace hfl := Lib.hid hfl
        go_wp2_with fail
        refine bodyPost_ret (v := .tuple #[.slice (some ⟨g, 0, none⟩) n cx, .bool false]) (by simp [results, Try.results67, go_sem]) rfl ?_
        exact ⟨.inr ⟨hfl.out, g, cx, rfl⟩, hB3.out⟩
      · have hP3 : Hid (∀ q, q < j + 1 → bitI m q ≤ cols.getD q 0) := fun q hq => by
          by_cases e : q = j
          · subst e; rw [hv.out, hu.out]; omega
          · exact hP.out q (by omega)
        go_wp2_with fail
        exact ⟨⟨j + 1, by omega, by go_num, hO3, hP3, hB3⟩, by simp [intOf]; omega⟩
    · obtain rfl : j = n := by omega
      rw [hall] at hO
      have hy := Lib.hid (htB.out hP.out)
      go_wp2_with fail
      refine bodyPost_ret (v := .tuple #[.slice (some ⟨g, 0, none⟩) j cx, .bool true]) (by simp [results, Try.results67, go_sem]) rfl ?_
      exact ⟨.inl ⟨hy.out, g, cx, rfl, hO.out⟩, hb.out⟩
end Go.Proofs.Ytnfkafaolelkbaa

