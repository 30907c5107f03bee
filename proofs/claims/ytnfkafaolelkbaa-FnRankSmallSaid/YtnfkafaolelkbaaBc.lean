/-
  slices.Clone of a list of lists, and the contract of the program's countBefore.
-/
import Derived.Test.YtnfkafaolelkbaaJl
import Derived.Test.YtnfkafaolelkbaaA
namespace Go.Proofs.Ytnfkafaolelkbaa
set_option maxRecDepth 100000
open Go.RowKit

/-- A list of lists that can be read, each with room for its own. -/
def RowsC (w : World) (b off n : Nat) (C : List (List Int)) : Prop :=
  C.length = n ∧ ∀ i (h : i < C.length), ∃ q o c, w.cell? ⟨b, off + i, none⟩ = some (.slice (some ⟨q, o, none⟩) C[i].length c) ∧ C[i].length ≤ c ∧ 1 ≤ C[i].length ∧ Row w (some ⟨q, o, none⟩) C[i].length C[i]
theorem RowsC.bel {w w' : World} {b off n : Nat} {C : List (List Int)} (h : RowsC w b off n C) (hb : Below w.heap.size w w') : RowsC w' b off n C :=
  ⟨h.1, fun i hi => by
    obtain ⟨q, o, c, h1, h2, h3, h4⟩ := h.2 i hi
    exact ⟨q, o, c, kept hb (block_lt h1) h1, h2, h3, h4.bel hb⟩⟩
theorem RowsC.rows {w : World} {b off n : Nat} {C : List (List Int)} (h : RowsC w b off n C) : RowsAt w (some ⟨b, off, none⟩) n C :=
  ⟨h.1, .inr ⟨b, off, rfl, fun i hi => by
    obtain ⟨q, o, c, h1, h2, h3, h4⟩ := h.2 i hi
    exact ⟨_, c, h1, h4⟩⟩⟩
/-- The values of its cells. -/
def valsC (w : World) (b off n : Nat) : List Value := (List.range n).map fun i => (w.cell? ⟨b, off + i, none⟩).getD (.bool false)
theorem valsC_at {w : World} {b off n : Nat} {C : List (List Int)} (h : RowsC w b off n C) {i : Nat} (hi : i < n) : ∃ q o c, (valsC w b off n)[i]? = some (.slice (some ⟨q, o, none⟩) (C[i]'(by have := h.1; omega)).length c) ∧
    w.cell? ⟨b, off + i, none⟩ = some (.slice (some ⟨q, o, none⟩) (C[i]'(by have := h.1; omega)).length c) := by
  obtain ⟨q, o, c, h1, _⟩ := h.2 i (by have := h.1; omega)
  exact ⟨q, o, c, by simp [valsC, hi, h1], h1⟩
theorem valsC_len (w : World) (b off n : Nat) : (valsC w b off n).length = n := by simp [valsC]
theorem valsC_news {w : World} {b off n : Nat} {C : List (List Int)} (h : RowsC w b off n C) : ∀ j u, (valsC w b off n)[j]? = some u → w.cell? ((⟨b, off, none⟩ : Addr).add j) = some u := by
  intro j u hj
  have hjl := (List.getElem?_eq_some_iff.1 hj).1
  rw [valsC_len] at hjl
  obtain ⟨q, o, c, h1, h2⟩ := valsC_at h hjl
  rw [h1] at hj
  cases hj
  by_cases e : j = 0
  · subst e; simpa [Addr.add] using h2
  · simpa [Addr.add, e] using h2
theorem valsC_one {w : World} {b off n : Nat} {C : List (List Int)} (h : RowsC w b off n C) : ∀ u ∈ valsC w b off n, u.oneCell' = true := by
  intro u hu
  obtain ⟨j, hj, e⟩ := List.getElem_of_mem hu
  rw [valsC_len] at hj
  obtain ⟨q, o, c, h1, _⟩ := valsC_at h hj
  rw [List.getElem?_eq_getElem (by rw [valsC_len]; exact hj), e] at h1
  cases h1; rfl
theorem ownsl_of {w : World} {B n : Nat} {v : Value} {vals : List Value} (h : w.ownsRow B 23 1 v n vals) (h1 : 1 ≤ n) : ∃ g c, v = .slice (some ⟨g, 0, none⟩) n c := by
  rcases h.2 with ⟨_, e⟩ | ⟨g, c, cur, e, _⟩
  · have := h.1; subst e; simp at this; omega
  · exact ⟨g, c, e⟩
set_option maxHeartbeats 400000 in
theorem clone2_any (b off n cap : Nat) (C : List (List Int)) (w : World) (h : RowsC w b off n C) (hm : n ≤ 1048576) (h1 : 1 ≤ n) :
    Calls Try.prog 99 #[.slice (some ⟨b, off, none⟩) n cap] w fun e w' => (∃ g c, e = .returned (.slice (some ⟨g, 0, none⟩) n c) ∧ w'.ownsRow w.heap.size 23 1 (.slice (some ⟨g, 0, none⟩) n c) n (valsC w b off n)) ∧ Below w.heap.size w w' := by
  obtain ⟨i0, hi, hz0, hz1, hz2⟩ := info_parts infoSl
  have hn := Lib.hid (valsC_news h)
  have hone := Lib.hid (valsC_one h)
  have hlen := valsC_len w b off n
  obtain ⟨vals, hv⟩ : ∃ vals, valsC w b off n = vals := ⟨_, rfl⟩
  rw [hv] at hn hone hlen ⊢
  clear h hv
  have hnil := fun wx => Lib.run_eql_slice_nil (P := Try.prog) wx 64 23 (some ⟨b, off, none⟩) n cap 0 0 Try.underlying64
  go_enter Try.func99, Try.ntmps99
  go_wp2_with (at_builtin; refine wpList_append_own _ rfl _ _ 64 rfl w.heap.size 23 i0 (.slice none 0 0) 1 24 Try.underlying64 hi hz0 hz1 hz2 rfl (by decide) _ 0 [] rfl (World.ownsRow_lit w #[] 0 (Nat.le_refl _) (by decide) rfl) ⟨b, off, none⟩ n cap vals rfl ?c1 ?c2 ?c3 ?c4 ?c5 ?c6 ?_)
  case c1 => rw [hlen, Nat.mul_one]
  case c2 => exact fun j u hj => World.cell?_alloc_some (hn.out j u hj)
  case c3 => exact hone.out
  case c4 => unfold maxLen; omega
  case c5 => omega
  case c6 => simp
  intro v' w1 hown hgr hnil'
  have hown : w1.ownsRow w.heap.size 23 1 v' n vals := by simpa using hown
  obtain ⟨g, c, rfl⟩ := ownsl_of hown h1
  have bb : Below w.heap.size w w1 := ((Below.refl _ _).alloc (Nat.le_refl _) _).grown hgr (by simp) (fun k hk => by simp [Value.ownBlock] at hk; omega)
  have ho := Lib.hid hown
  clear hown hgr hnil'
  go_wp2
  go_ret
  exact ⟨⟨g, c, rfl, ho.out⟩, bb⟩
set_option maxHeartbeats 1600000 in
theorem before_any (b off n cap : Nat) (C : List (List Int)) (cb : Option Addr) (m cc : Nat) (cols : List Int) (i many : Nat) (w : World) (h : RowsC w b off n C) (hc : Row w cb m cols) (hn : n ≤ 6) (h1 : 1 ≤ m) (h6 : m ≤ 6)
    (hcb : ∀ j, j < m → 0 ≤ cols.getD j 0 ∧ cols.getD j 0 ≤ 7) (hC : ∀ L, L ∈ C → L.length ≤ 64 ∧ ∀ x, x ∈ L → 0 ≤ x ∧ x ≤ 63) (hi : i < n) (L : List Int) (hL : C[i]? = some L) (hm : many ≤ L.length) :
    Calls Try.prog 62 #[.slice (some ⟨b, off, none⟩) n cap, .slice cb m cc, .int .i64 i, .int .i64 many] w fun e w' => e = .returned (.int .i64 (ckr (C.set i (L.take many)) (padL cols))) ∧ Below w.heap.size w w' := by
  have hl := h.1
  obtain ⟨q, o, c, hcell, hlc, hl1, hrow⟩ := h.2 i (by omega)
  have hLe : C[i]'(by omega) = L := by rw [List.getElem?_eq_getElem (by omega)] at hL; exact Option.some.inj hL
  rw [hLe] at hcell hlc hl1 hrow
  have hcl := clone2_any b off n cap C w h (by omega) (by omega)
  have hH := Lib.hid h
  have hcR := Lib.hid hc
  have hL64 := hC L (by rw [← hLe]; exact List.getElem_mem _)
  have hqw : q < w.heap.size := by
    obtain ⟨b', o', e, hq⟩ := row_at hrow hl1
    cases e
    exact block_lt hq
  obtain ⟨len, hlen⟩ : ∃ len, L.length = len := ⟨_, rfl⟩
  rw [hlen] at hcell hlc hl1 hrow hm hL64
  replace hlen := Lib.hid hlen
  replace hrow := Lib.hid hrow
  replace hL := Lib.hid hL
  replace hLe := Lib.hid hLe
  clear h hc
  go_enter Try.func62, Try.ntmps62
  go_wp2_with fail
  refine hcl.mono ?_
  rintro e w1 ⟨⟨g, cg, rfl, ho⟩, hb⟩
  have hge := own_ltR ho
  have hcg : n ≤ cg := by
    rcases ho.2 with ⟨e, _⟩ | ⟨q, c, cur, e, _, _, h5, _⟩
    · cases e
    · cases e; exact h5
  have hcell1 := kept hb (block_lt hcell) hcell
  have hw := ho.1
  obtain ⟨v, hv⟩ : ∃ v, (valsC w b off n)[i]? = some v := ⟨_, List.getElem?_eq_getElem (by omega)⟩
  have hgc := World.ownsRow.cellAt ho i (by omega)
  rw [hv] at hgc
  have hfz := World.ownsRow.frozenAt ho
  have hst := World.ownsRow.stored ho i (.slice (some ⟨q, o, none⟩) many c)
  have hb2 := hb.setCell (show w.heap.size ≤ (⟨g, i, none⟩ : Addr).block from hge.1) (.slice (some ⟨q, o, none⟩) many c)
  have hR2 : Hid (RowsAt (w1.setCell ⟨g, i, none⟩ (.slice (some ⟨q, o, none⟩) many c)) (some ⟨g, 0, none⟩) n (C.set i (L.take many))) := by
    refine ⟨by rw [List.length_set]; exact hl, .inr ⟨g, 0, rfl, fun k hk => ?_⟩⟩
    rw [List.length_set] at hk
    by_cases e : k = i
    · subst e
      refine ⟨some ⟨q, o, none⟩, c, ?_, ?_⟩
      · rw [Nat.zero_add, World.ownsRow.cellAt hst.1 _ (by omega), List.getElem?_set_self (by rw [valsC_len]; omega)]
        simp only [List.getElem_set_self, List.length_take]
        rw [hlen.out, Nat.min_eq_left hm]
      · simp only [List.getElem_set_self]
        have := hrow.out.bel hb2
        refine ⟨by first | rfl | trivial, ?_⟩
        by_cases e0 : many = 0
        · left; subst e0; simp
        · right
          obtain ⟨b', o', e1, hq⟩ := this.2.resolve_left (by omega)
          cases e1
          refine ⟨q, o, rfl, fun j hj => ?_⟩
          rw [List.length_take] at hj
          rw [hq j (by omega)]
          simp [List.getD_eq_getElem?_getD, show j < many by omega]
    · obtain ⟨q', o', c', d1, d2⟩ := valsC_at hH.out (i := k) (by omega)
      obtain ⟨q2, o2, c2, f1, f2, f3, f4⟩ := hH.out.2 k hk
      rw [d2] at f1
      cases f1
      refine ⟨some ⟨q', o', none⟩, c', ?_, ?_⟩
      · rw [Nat.zero_add, World.ownsRow.cellAt hst.1 _ (by omega), List.getElem?_set_ne (fun e2 => e e2.symm), d1]
        rw [List.getElem_set_ne (fun e2 => e e2.symm)]
      · rw [List.getElem_set_ne (fun e2 => e e2.symm)]
        exact f4.bel hb2
  have hcR2 := Lib.hid (hcR.out.bel hb2)
  have hC2 : ∀ M, M ∈ C.set i (L.take many) → M.length ≤ 64 ∧ ∀ x, x ∈ M → 0 ≤ x ∧ x ≤ 63 := fun M hM => by
    rcases List.mem_or_eq_of_mem_set hM with h | rfl
    · exact hC M h
    · exact ⟨by rw [List.length_take]; have := hL64.1; have := hlen.out; omega, fun x hx => hL64.2 x (List.mem_of_mem_take hx)⟩
  replace hC2 := Lib.hid hC2
  have hc0 : ¬ c = 0 := by omega
  have hmc : many ≤ c := by omega
  replace hb2 := Lib.hid hb2
  clear ho hst hb hcell hC hL64 hw hv hH hcl
  go_wp2_with fail
  refine (chosen_any _ n cg _ cb m cc cols _ hR2.out hcR2.out hn h1 h6 hcb hC2.out).mono ?_
  rintro e w3 ⟨rfl, hb3⟩
  have hb4 := Lib.hid (hb2.out.trans (hb3.mono hb2.out.size))
  clear hb3
  go_wp2_with fail
  go_ret
  exact ⟨rfl, hb4.out⟩
end Go.Proofs.Ytnfkafaolelkbaa

