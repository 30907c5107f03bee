/-
  The model's l15Take, l15Ways and SumsCount.
  The model's l15Ways, l15Ok and SumsCount.
  Counted sums: SumsCount of both sides in the laws' forms, and plain facts on what it answers.
-/
import Derived.Test.YtnfkafaolelkbaaJa
import Derived.Test.YtnfkafaolelkbaaK
import Derived.Test.YtnfkafaolelkbaaPa
import Derived.Test.YtnfkafaolelkbaaJl

namespace Go.Proofs.Ytnfkafaolelkbaa
set_option maxRecDepth 100000
open Go.RowKit

/-- The first sums have a row taken away. -/
def takK (cols : List Int) (m : Int) (j : Nat) : List Int := rowsL (fun q => cols.getD q 0 - if q < j then bitI m q else 0) cols.length
theorem tak_len (cols : List Int) (m : Int) (j : Nat) : (takK cols m j).length = cols.length := rows_len ..
theorem tak_zero (cols : List Int) (m : Int) : takK cols m 0 = cols := by
  apply List.ext_getElem (tak_len ..)
  intro i h1 h2
  have := rows_get (fun q => cols.getD q 0 - if q < 0 then bitI m q else 0) h2
  rw [getD_elem (by rw [rows_len]; exact h2)] at this
  simp [takK, rowsL, h2]
theorem tak_all (cols : List Int) (m : Int) : takK cols m cols.length = takeI cols m := rows_ext fun i hi => by rw [if_pos hi]
theorem tak_get {cols : List Int} (m : Int) {j : Nat} (hj : j < cols.length) : (takK cols m j).getD j 0 = cols.getD j 0 := by
  rw [show (takK cols m j).getD j 0 = _ from rows_get _ hj]; simp
theorem tak_set {cols : List Int} (m : Int) {j : Nat} (_ : j < cols.length) : (takK cols m j).set j (cols.getD j 0 - bitI m j) = takK cols m (j + 1) := by
  apply List.ext_getElem (by rw [List.length_set, tak_len, tak_len])
  intro i h1 h2
  rw [tak_len] at h2
  have e1 : (takK cols m (j + 1))[i]'(by rw [tak_len]; exact h2) = cols.getD i 0 - if i < j + 1 then bitI m i else 0 := by rw [← getD_elem]; exact rows_get _ h2
  have e2 : (takK cols m j)[i]'(by rw [tak_len]; exact h2) = cols.getD i 0 - if i < j then bitI m i else 0 := by rw [← getD_elem]; exact rows_get _ h2
  rw [e1]
  by_cases e : j = i
  · subst e; rw [List.getElem_set_self, if_pos (by omega)]
  · rw [List.getElem_set_ne e, e2]
    by_cases e3 : i < j
    · rw [if_pos e3, if_pos (by omega)]
    · rw [if_neg e3, if_neg (by omega)]
set_option maxHeartbeats 3200000 in
theorem take_spec (a : Option Addr) (n cap : Nat) (cols : List Int) (m : Int) (w : World) (h : Row w a n cols) (h1 : 1 ≤ n) (h6 : n ≤ 6) (hb : ∀ j, j < n → 0 ≤ cols.getD j 0 ∧ cols.getD j 0 ≤ 6) (hm0 : 0 ≤ m) (hm : m ≤ 63) :
    Calls Try.prog 67 #[.slice a n cap, .int .i64 m] w fun e w' =>
      ((takeB cols m = true ∧ ∃ g c, e = .returned (.tuple #[.slice (some ⟨g, 0, none⟩) n c, .bool true]) ∧ OwnI w' w.heap.size (some ⟨g, 0, none⟩) n c (takeI cols m)) ∨ (takeB cols m = false ∧ ∃ g c, e = .returned (.tuple #[.slice (some ⟨g, 0, none⟩) n c, .bool false]))) ∧ Below w.heap.size w w' := by
  have hl := h.1
  obtain ⟨ba, bo, rfl, _⟩ := row_at h (show 0 < n by omega)
  have hnw := Lib.hid (row_news h (by omega))
  obtain ⟨i0, hi, hz0, hz1, hz2⟩ := info_parts infoInt
  have hset := Lib.hid (fun j (hj : j < n) => tak_set (cols := cols) m (j := j) (by omega))
  have hget := Lib.hid (fun j (hj : j < n) => tak_get (cols := cols) m (j := j) (by omega))
  have hlen := Lib.hid (fun j => tak_len cols m j)
  have hall := tak_all cols m
  have htB : Hid ((∀ j, j < n → bitI m j ≤ cols.getD j 0) → takeB cols m = true) := fun hh => decide_eq_true (by rw [hl]; exact hh)
  have htN : Hid (∀ j, j < n → ¬ bitI m j ≤ cols.getD j 0 → takeB cols m = false) := fun j hj hh => decide_eq_false (fun h2 => hh (h2 j (by omega)))
  have cb := Lib.hid (fun j (hj : j < n) wx => bit_any m j wx hm0 (by omega) (by omega))
  have hb1 := Lib.hid (fun j => bit_01 m j)
  have hbd := Lib.hid hb
  rw [hl] at hall
  have hzero := tak_zero cols m
  clear h hb
  go_enter Try.func67, Try.ntmps67
  go_wp2_with (at_builtin; refine wpList_append_own _ rfl _ _ 23 rfl w.heap.size 3 i0 (.int .i64 0) 1 8 Try.underlying23 hi hz0 hz1 hz2 rfl (by decide) _ 0 [] rfl (World.ownsRow_lit w #[] 0 (Nat.le_refl _) (by decide) rfl) ⟨ba, bo, none⟩ n cap (cols.map (Value.int .i64)) rfl (by rw [List.length_map]; omega) (fun j u hj => World.cell?_alloc_some (hnw.out j u hj)) (ints_oneCell _ _) (by unfold maxLen; omega) (by omega) (by simp) ?_)
  intro v' w1 hown hgr hnil
  obtain ⟨ax, cx, rfl, ho⟩ := own_of (xs := cols) (n := n) (by simpa using hown)
  obtain ⟨g, rfl⟩ : ∃ g, ax = some ⟨g, 0, none⟩ := by
    rcases ho.cases with ⟨_, h, _⟩ | ⟨g, h, _⟩
    · omega
    · exact ⟨g, h⟩
  have hb : Hid (Below w.heap.size w w1) := ((Below.refl _ _).alloc (Nat.le_refl _) _).grown hgr (by simp) (fun k hk => by simp [Value.ownBlock] at hk; omega)
  have hgg : w.heap.size ≤ g := (rng_own ho _ rfl).1
  have hO : Hid (OwnI w1 w.heap.size (some ⟨g, 0, none⟩) n cx (takK cols m 0)) := by rw [hzero]; exact ho
  have hP : Hid (∀ q, q < 0 → bitI m q ≤ cols.getD q 0) := fun q hq => by omega
  clear hown hgr hnil hnw hi hz0 hz1 hz2 ho hzero
  go_wp2_with fail
  go_loopw [7] (fun i wr => ∃ j : Nat, j ≤ n ∧ i = .int .i64 j ∧ Hid (OwnI wr w.heap.size (some ⟨g, 0, none⟩) n cx (takK cols m j)) ∧ Hid (∀ q, q < j → bitI m q ≤ cols.getD q 0) ∧ Hid (Below w.heap.size w wr)) (fun i _ => n - (intOf i).toNat)
  case atStart => exact ⟨0, Nat.zero_le _, rfl, hO, hP, hb⟩
  case round =>
    clear hO hP hb
    obtain ⟨j, hj, rfl, hO, hP, hb⟩ := hrel
    obtain ⟨wo, rfl⟩ : ∃ wo : World, wo = wr := ⟨_, rfl⟩
    have hlj := hlen.out j
    by_cases hlt : j < n
    · obtain ⟨W2, hW2⟩ : ∃ W2, wo.drew = W2 := ⟨_, rfl⟩
      have hb2 : Below wo.heap.size wo W2 := by rw [← hW2]; exact (Below.refl _ _).drew
      have hO2 := hO.out.bel hb2
      have hc := own_cell hO2 hlt
      rw [hget.out j hlt] at hc
      have hf := hO2.frozen
      have hs := hset.out j hlt
      have cbj := Lib.hid (cb.out j hlt)
      have hbj := hb1.out j
      have hcj := hbd.out j hlt
      have hPj := Lib.hid (htN.out j hlt)
      obtain ⟨v, hv⟩ : ∃ v, cols.getD j 0 = v := ⟨_, rfl⟩
      obtain ⟨u, hu⟩ : ∃ u, bitI m j = u := ⟨_, rfl⟩
      rw [hv] at hc hs hcj hPj
      rw [hu] at hs cbj hbj hPj
      have hO3 := hO2.set j (v - u)
      rw [hs] at hO3
      have hc3 := own_cell hO3 hlt
      have hce : (takK cols m (j + 1)).getD j 0 = v - u := by rw [← hs]; simp [show j < (takK cols m j).length by rw [hlen.out]; omega]
      rw [hce] at hc3
      have hB3 := (hb.out.trans (hb2.mono hb.out.size)).setCell (show w.heap.size ≤ (⟨g, j, none⟩ : Addr).block from hgg) (.int .i64 (v - u))
      replace hO3 := Lib.hid hO3
      replace hB3 := Lib.hid hB3
      replace hs := Lib.hid hs
      replace hce := Lib.hid hce
      replace hv := Lib.hid hv
      replace hu := Lib.hid hu
      have hw1 : IntKind.i64.wrap (v - u) = v - u := IntWalk.i64_in _ ⟨by omega, by omega⟩
      clear hO2 hO hb hb2 hlj
      go_wp2_with fail
      refine region_tail 11 (by kernel_rfl) (by kernel_rfl) W2 hW2 ?_
      simp only [List.take_succ_cons, List.take_zero, List.drop_succ_cons, List.drop_zero]
      clear hW2
      repeat (first | still_step | still_call (st (cbj.out _)))
      refine wpStill_nil ?_
      by_cases hneg : v - u < 0
      · have hfl := hPj.out (by omega)
        replace hfl := Lib.hid hfl
        go_wp2_with fail
        refine bodyPost_ret (v := .tuple #[.slice (some ⟨g, 0, none⟩) n cx, .bool false]) (by simp [results, Try.results67, go_sem]) rfl ?_
        exact ⟨.inr ⟨hfl.out, g, cx, rfl⟩, hB3.out⟩
      · have hP3 : Hid (∀ q, q < j + 1 → bitI m q ≤ cols.getD q 0) := fun q hq => by
          by_cases e : q = j
          · subst e; rw [hv.out, hu.out]; omega
          · exact hP.out q (by omega)
        go_wp2_with fail
        exact ⟨⟨j + 1, by omega, by go_num, hO3, hP3, hB3⟩, by simp [intOf]; omega⟩
    · obtain rfl : j = n := by omega
      rw [hall] at hO
      have hy := Lib.hid (htB.out hP.out)
      go_wp2_with fail
      refine bodyPost_ret (v := .tuple #[.slice (some ⟨g, 0, none⟩) j cx, .bool true]) (by simp [results, Try.results67, go_sem]) rfl ?_
      exact ⟨.inl ⟨hy.out, g, cx, rfl, hO.out⟩, hb.out⟩
end Go.Proofs.Ytnfkafaolelkbaa

namespace Go.Proofs.Ytnfkafaolelkbaa
set_option maxRecDepth 100000
open Go.RowKit

theorem row_tail {w : World} {b off n : Nat} {x : Int} {xs : List Int} {k : Nat} (h : Row w (some ⟨b, off, none⟩) n (x :: xs)) (hk : n = k + 1) (a : Option Addr) (ha : k = 0 ∨ a = some ⟨b, off + 1, none⟩) : Row w a k xs := by
  have hl : xs.length = k := by have := h.1; simp at this; omega
  refine ⟨hl, ?_⟩
  rcases ha with h0 | rfl
  · exact .inl h0
  · by_cases h0 : k = 0
    · exact .inl h0
    · obtain ⟨b', off', e, hc⟩ := h.2.resolve_left (by omega)
      cases e
      exact .inr ⟨b, off + 1, rfl, fun i hi => by
        have := hc (i + 1) (by omega)
        rw [show off + 1 + i = off + (i + 1) by omega]
        simpa using this⟩
theorem way_bd {W : Nat} (hW : W ≤ 6) {rows cols : List Int} (hl : cols.length = W) (h0 : ∀ j, j < W → 0 ≤ cols.getD j 0) (hn : rows.length ≤ 6) : 0 ≤ wayI W rows cols ∧ wayI W rows cols ≤ 68719476736 := by
  rw [way_ckr hW rows cols hl h0]
  have h1 := ckr_nn (choC W rows) (padL cols)
  have h2 := ckr_bd (C := choC W rows) (padL cols) fun L hL => (cho_small hW L hL).1
  have h3 := pw_le (6 * (choC W rows).length) 36 (by rw [cho_len]; omega)
  have h4 : pw 36 = 68719476736 := by decide
  omega
theorem sum_part {f : Nat → Int} {K : Nat} (h : ∀ i, i < K → 0 ≤ f i) : ∀ {k : Nat}, k ≤ K → 0 ≤ sumI f k ∧ sumI f k ≤ sumI f K := by
  induction K with
  | zero => intro k hk; obtain rfl : k = 0 := by omega
            exact ⟨Int.le_refl _, Int.le_refl _⟩
  | succ K ih =>
    have ih2 := fun {k} => ih (fun i hi => h i (by omega)) (k := k)
    have h1 := h K (by omega)
    have h2 := (ih2 (k := K) (Nat.le_refl _)).1
    have e : sumI f (K + 1) = sumI f K + f K := rfl
    intro k hk
    by_cases hkK : k = K + 1
    · subst hkK; omega
    · have := ih2 (k := k) (by omega); omega
theorem taken_nn {cols : List Int} {m : Int} (h : takeB cols m = true) : ∀ j, j < cols.length → 0 ≤ (takeI cols m).getD j 0 := fun j hj => by
  have hb : ∀ j, j < cols.length → bitI m j ≤ cols.getD j 0 := of_decide_eq_true h
  rw [took_get _ hj]
  have := hb j hj
  omega
theorem sum_el_36 {xs : List Int} {n : Nat} (hl : xs.length = n) (h6 : n ≤ 6) (h : ∀ j, j < n → 0 ≤ xs.getD j 0 ∧ xs.getD j 0 ≤ 6) (k : Nat) (hk : k ≤ n) : 0 ≤ psum xs k ∧ psum xs k ≤ 6 * k := by
  induction k with
  | zero => exact ⟨Int.le_refl _, Int.le_refl _⟩
  | succ k ih =>
    have h1 := ih (by omega)
    have h2 := h k (by omega)
    have e : psum xs (k + 1) = psum xs k + xs.getD k 0 := rfl
    omega
set_option maxHeartbeats 800000 in
theorem l3sum_el (a : Option Addr) (n cap : Nat) (xs : List Int) (w : World) (h : Row w a n xs) (h6 : n ≤ 6) (hb : ∀ j, j < n → 0 ≤ xs.getD j 0 ∧ xs.getD j 0 ≤ 6) :
    Calls Try.prog 93 #[.slice a n cap, .int .i64 n] w fun e w' => e = .returned (.int .i64 (lsum xs)) ∧ w = w' := by
  have hl := h.1
  have hall : psum xs n = lsum xs := by rw [← hl]; exact psum_all xs
  rw [← hall]
  have hsm := Lib.hid (sum_el_36 hl h6 hb)
  have hR := Lib.hid h
  have hbb := Lib.hid hb
  replace hall := Lib.hid hall
  clear h hb
  go_enter Try.func93, Try.ntmps93
  go_wp2_with fail
  go_loop [5, 6] (fun o i => ∃ j : Nat, j ≤ n ∧ i = .int .i64 j ∧ o = .int .i64 (psum xs j)) (fun _ i => n - (intOf i).toNat)
  case atStart => exact ⟨0, Nat.zero_le _, rfl, rfl⟩
  case round =>
    obtain ⟨j, hj, rfl, rfl⟩ := hrel
    have hs := hsm.out j hj
    by_cases hlt : j < n
    · obtain ⟨b, off, rfl, hc⟩ := row_at hR.out hlt
      have hx := hbb.out j hlt
      have hsn : psum xs (j + 1) = psum xs j + xs.getD j 0 := rfl
      generalize psum xs j = q at hs hsn
      generalize xs.getD j 0 = x at hc hx hsn
      have hsn := Lib.hid hsn
      go_wp2_with fail
      exact ⟨⟨j + 1, by omega, by go_num, by rw [hsn.out]⟩, by simp [intOf]; omega⟩
    · obtain rfl : j = n := by omega
      go_wp2_with fail
      go_ret
      exact ⟨rfl, rfl⟩
set_option maxHeartbeats 3200000 in
theorem ways_spec (W : Nat) (hW1 : 1 ≤ W) (hW : W ≤ 6) : ∀ (rows : List Int) (a : Option Addr) (n cap : Nat) (b : Option Addr) (cb : Nat) (cols : List Int) (w : World), Row w a n rows → Row w b W cols → n ≤ 6 → n ≤ cap → (∀ j, j < W → 0 ≤ cols.getD j 0 ∧ cols.getD j 0 ≤ 6) →
    Calls Try.prog 59 #[.slice a n cap, .slice b W cb] w fun e w' => e = .returned (.int .i64 (wayI W rows cols)) ∧ Below w.heap.size w w' := by
  intro rows
  induction rows with
  | nil =>
    intro a n cap b cb cols w h hc hn hcap hb
    obtain rfl : n = 0 := by have := h.1; simpa using this.symm
    have c3 := l3sum_el b W cb cols w hc hW hb
    have hl := hc.1
    have hs := lsum_rows cols
    rw [wayI]
    obtain ⟨S, hS⟩ : ∃ S, lsum cols = S := ⟨_, rfl⟩
    rw [hS] at c3 ⊢
    clear h hc hb hs hS
    by_cases e0 : S = 0
    · subst e0
      rw [if_pos rfl]
      go_enter Try.func59, Try.ntmps59
      go_wp2_with fail
      refine c3.mono ?_
      rintro e w1 ⟨rfl, rfl⟩
      go_wp2_with fail
      go_ret
      exact ⟨rfl, Below.refl _ _⟩
    · rw [if_neg e0]
      have e1 : (S == 0) = false := by simpa using e0
      go_enter Try.func59, Try.ntmps59
      go_wp2_with fail
      refine c3.mono ?_
      rintro e w1 ⟨rfl, rfl⟩
      go_wp2_with fail
      go_ret
      exact ⟨rfl, Below.refl _ _⟩
  | cons r rows ih =>
    intro a n cap b cb cols w h hc hn hcap hb
    obtain ⟨k, rfl⟩ : ∃ k, n = k + 1 := ⟨rows.length, by have := h.1; simpa using this.symm⟩
    obtain ⟨ba, bo, rfl, hr0⟩ := row_at h (show 0 < k + 1 by omega)
    have hl := hc.1
    have hrl : rows.length = k := by have := h.1; simpa using this
    rw [show (r :: rows).getD 0 0 = r from rfl, Nat.add_zero] at hr0
    obtain ⟨P, hP⟩ : ∃ P, pn W = P := ⟨_, rfl⟩
    have hPi := pn_int W
    rw [hP] at hPi
    have hP64 : P ≤ 64 := by rw [← hP]; exact pn_64 hW
    have hlow := Lib.hid (fun (m : Nat) (hm : m < P) => cnt_low W (by omega) m (by omega))
    have cp := Lib.hid (fun wx => power_any W wx (by omega))
    rw [← hPi] at cp
    have hF : Hid (∀ m : Nat, (if cntI (m : Nat) W = r ∧ takeB cols (m : Nat) = true then wayI W rows (takeI cols (m : Nat)) else 0) ≥ 0 ∧ (takeB cols (m : Nat) = true → 0 ≤ wayI W rows (takeI cols (m : Nat)) ∧ wayI W rows (takeI cols (m : Nat)) ≤ 68719476736)) := fun m => by
      have hy : takeB cols (m : Nat) = true → 0 ≤ wayI W rows (takeI cols (m : Nat)) ∧ wayI W rows (takeI cols (m : Nat)) ≤ 68719476736 := fun ht =>
        way_bd hW (by rw [took_len]; exact hl) (fun j hj => taken_nn ht j (by omega)) (by omega)
      refine ⟨?_, hy⟩
      split
      · rename_i h; exact (hy h.2).1
      · exact Int.le_refl _
    have htot := way_bd hW (rows := r :: rows) hl (fun j hj => (hb j hj).1) (by have := h.1; simp at this ⊢; omega)
    rw [wayI, hP] at htot ⊢
    obtain ⟨F, hFe⟩ : ∃ F : Nat → Int, (fun m : Nat => if cntI (m : Nat) W = r ∧ takeB cols (m : Nat) = true then wayI W rows (takeI cols (m : Nat)) else 0) = F := ⟨_, rfl⟩
    rw [hFe] at htot ⊢
    have hFm : Hid (∀ m : Nat, F m = if cntI (m : Nat) W = r ∧ takeB cols (m : Nat) = true then wayI W rows (takeI cols (m : Nat)) else 0) := fun m => by rw [← hFe]
    have hsp := Lib.hid (fun kk (hk : kk ≤ P) => sum_part (f := F) (K := P) (fun i _ => by rw [hFm.out]; exact (hF.out i).1) hk)
    have hsn := Lib.hid (fun kk => show sumI F (kk + 1) = sumI F kk + F kk from rfl)
    have htk := Lib.hid (fun (m : Nat) (hm : m < P) wx hx => take_spec b W cb cols (m : Nat) wx hx hW1 hW hb (by omega) (by omega))
    have hih := Lib.hid (fun (m : Nat) (ht : takeB cols (m : Nat) = true) (a' : Option Addr) (c' : Nat) (g c2 : Nat) (wx : World) (h1 : Row wx a' k rows) (h2 : Row wx (some ⟨g, 0, none⟩) W (takeI cols (m : Nat))) (h3 : k ≤ c') =>
      ih a' k c' (some ⟨g, 0, none⟩) c2 (takeI cols (m : Nat)) wx h1 h2 (by omega) h3 (fun j hj => ⟨taken_nn ht j (by omega), by rw [took_get _ (by omega)]; have := bit_01 (m : Nat) j; have := hb j hj; omega⟩))
    have hcl := Lib.hid (fun (x : Nat) (hx : x < P) wx => count_any (x : Int) wx (by omega) (by omega))
    have hR := Lib.hid h
    have hC := Lib.hid hc
    replace hP := Lib.hid hP
    replace hPi := Lib.hid hPi
    replace hFe := Lib.hid hFe
    have hk1 : ((k : Int) + 1 == 0) = false := by rw [beq_eq_false_iff_ne]; omega
    clear h hc hb ih hF
    go_enter Try.func59, Try.ntmps59
    go_wp2_with fail
    go_loopw [5, 6] (fun o i wr => ∃ x : Nat, x ≤ P ∧ i = .int .i64 x ∧ o = .int .i64 (sumI F x) ∧ Hid (Below w.heap.size w wr)) (fun _ i _ => P - (intOf i).toNat)
    case atStart => exact ⟨0, Nat.zero_le _, rfl, rfl, Below.refl _ _⟩
    case round =>
      obtain ⟨x, hx, rfl, rfl, hB⟩ := hrel
      obtain ⟨wo, rfl⟩ : ∃ wo : World, wo = wr := ⟨_, rfl⟩
      have hBs := hB.out.size
      have s1 := hsp.out x hx
      obtain ⟨V, hV⟩ : ∃ V, sumI F x = V := ⟨_, rfl⟩
      rw [hV] at s1 ⊢
      by_cases hlt : x < P
      case neg =>
        obtain rfl : x = P := by omega
        go_wp2_with fail
        refine (cp.out _).mono ?_
        rintro e w1 ⟨rfl, rfl⟩
        go_wp2_with fail
        go_ret
        exact ⟨by rw [hV]; rfl, hB.out⟩
      have s2 := hsp.out (x + 1) (by omega)
      have hn1 := hsn.out x
      have hFx := hFm.out x
      have clx := Lib.hid (hcl.out x hlt)
      have hlw := hlow.out x hlt
      rw [hlw] at clx
      obtain ⟨cc, hcc⟩ : ∃ cc, cntI (x : Nat) W = cc := ⟨_, rfl⟩
      rw [hcc] at clx hFx
      have hr1 := kept hB.out (block_lt hr0) hr0
      rw [hV] at hn1
      have htx := Lib.hid (htk.out x hlt wo (hC.out.bel hB.out))
      have hix := Lib.hid (hih.out x)
      have hRo := Lib.hid (hR.out.bel hB.out)
      replace hV := Lib.hid hV
      replace hcc := Lib.hid hcc
      clear hlw
      go_wp2_with fail
      refine (cp.out _).mono ?_
      rintro e w1 ⟨rfl, rfl⟩
      by_cases hcr : cc = r
      case neg =>
        have hne : (cc != r) = true := by simpa using hcr
        rw [if_neg (fun h => hcr h.1)] at hFx
        rw [hFx, Int.add_zero] at hn1
        replace hn1 := Lib.hid hn1
        go_wp2_with fail
        go_quiet (((go_at_call 95; exact qd (clx.out _))))
        have hB2 := Lib.hid (hB.out.trans ((below_drewN (Below.refl wo.heap.size wo) nq).mono hBs))
        go_wp2_with fail
        exact ⟨⟨x + 1, by omega, by go_num, by rw [hn1.out], hB2⟩, by simp [intOf]; omega⟩
      have hne : (cc != r) = false := by simpa using hcr
      have hcr2 := Lib.hid hcr
      go_wp2_with fail
      go_quiet (((go_at_call 95; exact qd (clx.out _))))
      have hbq := below_drewN (Below.refl wo.heap.size wo) nq
      obtain ⟨wq, hwq⟩ : ∃ wq, wo.drewN nq = wq := ⟨_, rfl⟩
      rw [hwq] at hbq ⊢
      have hBq := hB.out.trans (hbq.mono hBs)
      have htq := Lib.hid (htk.out x hlt wq (hC.out.bel hBq))
      have hBqs := hBq.size
      replace hBq := Lib.hid hBq
      clear hwq hbq htx
      go_wp2_with fail
      refine htq.out.mono ?_
      rintro e w3 ⟨hres, hb3⟩
      have hB3 := Lib.hid (hBq.out.trans (hb3.mono hBqs))
      rcases hres with ⟨ht, g, c2, rfl, ho⟩ | ⟨ht, g, c2, rfl⟩
      · rw [if_pos ⟨hcr2.out, ht⟩] at hFx
        have ho3 := Lib.hid ho.row
        have hR3 := Lib.hid (hR.out.bel hB3.out)
        obtain ⟨U, hU⟩ : ∃ U, wayI W rows (takeI cols (x : Nat)) = U := ⟨_, rfl⟩
        have hcall := hix.out ht
        rw [hU] at hFx hcall
        rw [hFx] at hn1
        have hw1 : IntKind.i64.wrap (V + U) = V + U := by rw [← hn1]; exact IntWalk.i64_in _ ⟨by omega, by omega⟩
        have hw2 : wrap64 (V + U) = V + U := by rw [← hn1]; exact IntWalk.wrap64_in _ ⟨by omega, by omega⟩
        replace hU := Lib.hid hU
        replace hn1 := Lib.hid hn1
        replace hcall := Lib.hid hcall
        clear ho hb3 hix htq
        by_cases hc1 : cap = 1
        · have hk0 : Hid (k = 0) := Lib.hid (by omega)
          have hcm1 : Hid (k ≤ cap - 1) := Lib.hid (by omega)
          have hc1' : (cap = 1) = True := eq_true hc1
          clear hc1
          go_wp2_with fail
          refine (hcall.out _ _ g c2 w3 (row_tail hR3.out rfl _ (.inl hk0.out)) ho3.out (by first | exact hcm1.out | (have := hk0.out; omega))).mono ?_
          rintro e w4 ⟨rfl, hb4⟩
          have hB4 := Lib.hid (hB3.out.trans (hb4.mono hB3.out.size))
          clear hb4
          go_wp2_with fail
          exact ⟨⟨x + 1, by omega, by go_num, by rw [hn1.out], hB4⟩, by simp [intOf]; omega⟩
        · have hc2 : ¬ (cap : Nat) = 1 := hc1
          go_wp2_with fail
          refine (hcall.out _ _ g c2 w3 (row_tail hR3.out rfl _ (.inr rfl)) ho3.out (by omega)).mono ?_
          rintro e w4 ⟨rfl, hb4⟩
          have hB4 := Lib.hid (hB3.out.trans (hb4.mono hB3.out.size))
          clear hb4
          go_wp2_with fail
          exact ⟨⟨x + 1, by omega, by go_num, by rw [hn1.out], hB4⟩, by simp [intOf]; omega⟩
      · rw [if_neg (fun h => by rw [h.2] at ht; cases ht), ] at hFx
        rw [hFx, Int.add_zero] at hn1
        replace hn1 := Lib.hid hn1
        clear hb3 hix htq
        go_wp2_with fail
        exact ⟨⟨x + 1, by omega, by go_num, by rw [hn1.out], hB3⟩, by simp [intOf]; omega⟩
set_option maxHeartbeats 800000 in
theorem okc_spec (a : Option Addr) (n cap : Nat) (a' : Option Addr) (m cap' : Nat) (xs ys : List Int) (w : World) (h : Row w a n xs) (h' : Row w a' m ys) (hn : n ≤ 1048576) (hm : m ≤ 1048576) :
    Calls Try.prog 58 #[.slice a n cap, .slice a' m cap'] w fun e w' => e = .returned (.bool (ctdB xs ys)) ∧ Below w.heap.size w w' := by
  have l1 := h.1
  have l2 := h'.1
  have cv := sumsV_spec a a' n m cap cap' xs ys w h h' (by omega) (by omega)
  unfold ctdB
  rw [l1, l2]
  clear h h'
  by_cases hs : sumsB xs ys = true
  · rw [hs] at cv ⊢
    have hp := sumsB_parts hs
    rw [l1, l2] at hp
    have hmul : n * m ≤ 36 := Nat.le_trans (Nat.mul_le_mul hp.1.2 hp.2.1.2) (by decide)
    have e1 : (n : Int) * (m : Int) = ((n * m : Nat) : Int) := (Int.natCast_mul ..).symm
    obtain ⟨P, hP⟩ : ∃ P, n * m = P := ⟨_, rfl⟩
    rw [hP] at e1 hmul ⊢
    have e2 : IntKind.i64.wrap ((n : Int) * (m : Int)) = (P : Int) := by rw [e1]; exact IntWalk.i64_in _ ⟨by omega, by omega⟩
    have e3 : wrap64 ((n : Int) * (m : Int)) = (P : Int) := by rw [e1]; exact IntWalk.wrap64_in _ ⟨by omega, by omega⟩
    replace e1 := Lib.hid e1
    replace hP := Lib.hid hP
    clear hp
    go_enter Try.func58, Try.ntmps58
    go_wp2_with fail
    refine cv.mono ?_
    rintro e w2 ⟨rfl, hb⟩
    replace hb := Lib.hid hb
    go_wp2_with fail
    go_ret
    exact ⟨by simp; omega, hb.out⟩
  · have hs : sumsB xs ys = false := by simpa using hs
    rw [hs] at cv ⊢
    go_enter Try.func58, Try.ntmps58
    go_wp2_with fail
    refine cv.mono ?_
    rintro e w2 ⟨rfl, hb⟩
    replace hb := Lib.hid hb
    go_wp2_with fail
    go_ret
    exact ⟨rfl, hb.out⟩
set_option maxHeartbeats 800000 in
theorem sc_spec (a : Option Addr) (n cap : Nat) (a' : Option Addr) (m cap' : Nat) (xs ys : List Int) (w : World) (h : Row w a n xs) (h' : Row w a' m ys) (hn : n ≤ 1048576) (hm : m ≤ 1048576) (hcap : n ≤ cap) :
    Calls Try.prog 22 #[.slice a n cap, .slice a' m cap'] w fun e w' => e = .returned (.int .i64 (scO xs ys)) ∧ Below w.heap.size w w' := by
  have l1 := h.1
  have l2 := h'.1
  have hc := okc_spec a n cap a' m cap' xs ys w h h' hn hm
  have hR := Lib.hid h
  have hR' := Lib.hid h'
  unfold scO
  clear h h'
  by_cases hs : ctdB xs ys = true
  · rw [hs] at hc
    rw [if_pos hs]
    have hs2 := (ctdB_parts hs).1
    have hp := sumsB_parts hs2
    rw [l1, l2] at hp
    have hn6 := hp.1.2
    have hm1 := hp.2.1.1
    have hm6 := hp.2.1.2
    have hq : Hid (wayI m xs ys = cntS xs ys) := Lib.hid (by rw [← l2]; exact way_num _ xs ys rfl (by rw [l2]; exact fun j hj => (hp.2.2.2 j hj).1))
    have hbd := Lib.hid hp.2.2.2
    clear hp hs2
    go_enter Try.func22, Try.ntmps22
    go_wp2_with fail
    refine hc.mono ?_
    rintro e w2 ⟨rfl, hb⟩
    replace hR := Lib.hid (hR.out.bel hb)
    replace hR' := Lib.hid (hR'.out.bel hb)
    replace hb := Lib.hid hb
    go_wp2_with fail
    refine (ways_spec m hm1 hm6 xs a n cap a' cap' ys w2 hR.out hR'.out hn6 hcap (fun j hj => ⟨(hbd.out j hj).1, by have := (hbd.out j hj).2; omega⟩)).mono ?_
    rintro e w4 ⟨rfl, hb4⟩
    rw [hq.out]
    replace hb := Lib.hid (hb.out.trans (hb4.mono hb.out.size))
    clear hb4
    go_wp2_with fail
    go_ret
    exact ⟨rfl, hb.out⟩
  · rw [if_neg hs]
    have hs : ctdB xs ys = false := by simpa using hs
    rw [hs] at hc
    go_enter Try.func22, Try.ntmps22
    go_wp2_with fail
    refine hc.mono ?_
    rintro e w2 ⟨rfl, hb⟩
    replace hb := Lib.hid hb
    go_wp2_with fail
    go_ret
    exact ⟨rfl, hb.out⟩
end Go.Proofs.Ytnfkafaolelkbaa

namespace Go.Proofs.Ytnfkafaolelkbaa
set_option maxRecDepth 100000
open Go.RowKit

theorem sc_ok {xs ys : List Int} {N : Int} {n m : Nat} (h : scO xs ys = N) (s : Option Addr) (c : Nat) (s' : Option Addr) (c' : Nat) (w : World) (hR : Row w s n xs) (hC : Row w s' m ys) (hn : n ≤ 13) (hm : m ≤ 13) :
    Calls Try.prog 21 #[.slice s n c, .slice s' m c'] w fun e w' => e = .returned (.int .i64 N) ∧ Below w.heap.size w w' := by
  rw [← h]; exact sc_impl s n c s' m c' xs ys w hR hC (by omega) (by omega)
theorem sc_sok {xs ys : List Int} {N : Int} {n m : Nat} (h : scO xs ys = N) (s : Option Addr) (c : Nat) (s' : Option Addr) (c' : Nat) (w : World) (hR : Row w s n xs) (hC : Row w s' m ys) (hn : n ≤ 13) (hm : m ≤ 13) (hc : n ≤ c) :
    Calls Try.prog 22 #[.slice s n c, .slice s' m c'] w fun e w' => e = .returned (.int .i64 N) ∧ Below w.heap.size w w' := by
  rw [← h]; exact sc_spec s n c s' m c' xs ys w hR hC (by omega) (by omega) hc
theorem sco_yes {xs ys : List Int} (h : ctdB xs ys = true) : scO xs ys = cntS xs ys := if_pos h
theorem ctdB_of {xs ys : List Int} (h : sumsB xs ys = true) (h2 : xs.length * ys.length ≤ 16) : ctdB xs ys = true := by
  unfold ctdB; rw [h, decide_eq_true h2]; rfl
theorem ctdB_flip {xs ys : List Int} (h : ctdB xs ys = true) : ctdB ys xs = true := by
  have hp := ctdB_parts h
  exact ctdB_of (sumsB_flip hp.1) (by rw [Nat.mul_comm]; exact hp.2)
theorem sco_bd {xs ys : List Int} (h : ctdB xs ys = true) : 0 ≤ cntS xs ys ∧ cntS xs ys ≤ 68719476736 := by
  have hs := (ctdB_parts h).1
  have hp := sumsB_parts hs
  have h0 : ∀ j, j < ys.length → 0 ≤ ys.getD j 0 := fun j hj => (hp.2.2.2 j hj).1
  have e : wayI ys.length xs ys = cntS xs ys := way_num _ xs ys rfl h0
  have := way_bd hp.2.1.2 (rows := xs) rfl h0 hp.1.2
  omega
theorem sco_turn {xs ys : List Int} (h : ctdB xs ys = true) : scO ys xs = cntS xs ys := by
  rw [sco_yes (ctdB_flip h)]; exact cnt_turn (ctdB_parts h).1
end Go.Proofs.Ytnfkafaolelkbaa
