/-
  The contracts of chapter 4's functions but SumsConsistent: SumsTurn, SumsExcess, of the program and of the model.
-/
import Derived.Test.YteadibgjieimkaaCa
import Derived.Test.YteadibgjieimkaaPf
import Derived.Test.YteadibgjieimkaaEx
import Derived.Maps.AppendAt
namespace Go.Proofs.Yteadibgjieimkaa
set_option maxRecDepth 100000
open Go.RowKit

/-- What the sums leave, as far as a place. -/
def restM (xs : List Int) (k : Int) (j : Nat) : List Int := rowsL (fun i => if i < j then k - xs.getD i 0 else 0) xs.length
theorem restM_zero (xs : List Int) (k : Int) : restM xs k 0 = List.replicate xs.length 0 := by
  rw [← rows_zero]; exact rows_ext fun _ _ => by rw [if_neg (by omega)]
theorem restM_set {xs : List Int} {k : Int} {j : Nat} (hj : j < xs.length) : (restM xs k j).set j (k - xs.getD j 0) = restM xs k (j + 1) :=
  rows_set _ _ hj (by rw [if_pos (by omega)]) fun i _ hne => by
    by_cases e : i < j
    · rw [if_pos e, if_pos (by omega)]
    · rw [if_neg e, if_neg (by omega)]
theorem restM_full (xs : List Int) (k : Int) : restM xs k xs.length = restL xs k := rows_ext fun i hi => by rw [if_pos hi]

set_option maxHeartbeats 800000 in
theorem rests_impl (a : Option Addr) (n cap : Nat) (xs : List Int) (k : Nat) (w : World) (h : Row w a n xs) (hn : n ≤ 6) (hk : k ≤ 6) (hb : ∀ i, i < xs.length → 0 ≤ xs.getD i 0 ∧ xs.getD i 0 ≤ k) :
    Calls Try.prog 68 #[.slice a n cap, .int .i64 k] w (GivesK w n (restL xs k)) := by
  have hl := h.1
  obtain ⟨i0, hi, hz0, hz1, hz2⟩ := info_parts infoInt
  have hb := Lib.hid hb
  have h := Lib.hid h
  go_enter Try.func68, Try.ntmps68
  go_wp2_with ((refine wpList_make_full w rfl _ _ 23 rfl w.heap.size 3 i0 (.int .i64 0) 1 Try.underlying23 hi hz0 hz1 .i64 .i64 n n n rfl rfl rfl rfl ?_ ?_ (Nat.le_refl _) ?_))
  all_goals first | (rw [hz2]; omega) | (unfold maxLen; omega) | skip
  intro w1 ho hg
  have ho0 : OwnI w1 w.heap.size (some ⟨w.heap.size, 0, none⟩) n n (restM xs k 0) := by
    rw [restM_zero, hl]; unfold OwnI; simpa [toList_madeCells_one, List.map_replicate] using ho
  have hb1 : Below w.heap.size w w1 := (Below.refl _ _).grown hg (Nat.le_refl _) (fun k hk => by cases hk)
  have ho0 := Lib.hid ho0
  replace hb1 := Lib.hid hb1
  clear ho hg
  go_wp2_with fail
  generalize hgw : w.heap.size = g at *
  go_loopw [13] (fun i wr => ∃ j : Nat, j ≤ n ∧ i = .int .i64 j ∧ Hid (Below g w wr) ∧ Hid (OwnI wr g (some ⟨g, 0, none⟩) n n (restM xs k j))) (fun i _ => n - (intOf i).toNat)
  case atStart => exact ⟨0, Nat.zero_le _, rfl, hb1, ho0⟩
  case round =>
    obtain ⟨j, hj, rfl, hB, hO⟩ := hrel
    clear hb1 ho0
    by_cases hlt : j < n
    · obtain ⟨b, off, rfl, hc⟩ := row_at (h.out.bel (by rw [hgw]; exact hB.out)) hlt
      have hx := hb.out j (by omega)
      have hcell := own_cell hO.out hlt
      have hfz := hO.out.frozen j
      have hst := hO.out.set j ((k : Int) - xs.getD j 0)
      rw [restM_set (by omega)] at hst
      have hbs := hB.out.setCell (show g ≤ (⟨g, j, none⟩ : Addr).block by simp) (.int .i64 ((k : Int) - xs.getD j 0))
      generalize xs.getD j 0 = x at hx hc hst hbs
      replace hst := Lib.hid hst
      replace hbs := Lib.hid hbs
      clear hO hB
      go_wp2_with fail
      exact ⟨⟨j + 1, by omega, by go_num, hbs, hst⟩, by simp [intOf]; omega⟩
    · have : j = n := by omega
      subst this
      rw [show restM xs k j = restL xs k by rw [← hl]; exact restM_full xs k] at hO
      subst hgw
      go_wp2_with fail
      go_ret
      exact ⟨⟨_, _, rfl, hO.out⟩, hB.out⟩

/-- What a function that gives two lists and a flag leaves: lists of the call's own, apart. -/
def GivesT (w : World) (n : Nat) (L : List Int) (m : Nat) (M : List Int) (ok : Bool) (e : Ending) (w' : World) : Prop :=
  (∃ a c a' c', e = .returned (.tuple #[.slice a n c, .slice a' m c', .bool ok]) ∧ OwnI w' w.heap.size a n c L ∧ OwnI w' w.heap.size a' m c' M ∧ ∃ z, w.heap.size ≤ z ∧ z ≤ w'.heap.size ∧ (∀ p, a = some p → w.heap.size ≤ p.block ∧ p.block < z) ∧ (∀ p, a' = some p → z ≤ p.block ∧ p.block < w'.heap.size)) ∧ Below w.heap.size w w'
/-- The same, lists that may lie anyhow. -/
def GivesTS (w : World) (n : Nat) (L : List Int) (m : Nat) (M : List Int) (ok : Bool) (e : Ending) (w' : World) : Prop :=
  (∃ a c a' c', e = .returned (.tuple #[.slice a n c, .slice a' m c', .bool ok]) ∧ OwnI w' w.heap.size a n c L ∧ OwnI w' w.heap.size a' m c' M) ∧ Below w.heap.size w w'

set_option maxHeartbeats 800000 in
theorem turnS_no (a a' : Option Addr) (n m cap cap' : Nat) (xs ys : List Int) (w : World) (h : Row w a n xs) (h' : Row w a' m ys) (hm : n ≤ 9223372036854775807) (hm' : m ≤ 9223372036854775807) (hv : sumsB xs ys = false) :
    Calls Try.prog 34 #[.slice a n cap, .slice a' m cap'] w (GivesT w 0 [] 0 [] false) := by
  have hs := sumsV_impl a a' n m cap cap' xs ys w h h' hm hm'
  rw [hv] at hs
  clear hv h h'
  go_enter Try.func34, Try.ntmps34
  go_wp2_with fail
  refine hs.mono ?_
  rintro e w1 ⟨rfl, hb⟩
  have hz := hb.size
  replace hb := Lib.hid hb
  go_wp2_with fail
  refine bodyPost_ret (v := .tuple #[.slice (some ⟨w1.heap.size, 0, none⟩) 0 0, .slice (some ⟨w1.heap.size + 1, 0, none⟩) 0 0, .bool false]) (by simp [results, Try.results34, go_sem]) rfl ?_
  have o1 : OwnI (w1.alloc (.cells #[] 3)) w.heap.size (some ⟨w1.heap.size, 0, none⟩) 0 0 [] := own_empty w1 w.heap.size w1.heap.size rfl hz
  have o2 : OwnI ((w1.alloc (.cells #[] 3)).alloc (.cells #[] 3)) w.heap.size (some ⟨w1.heap.size + 1, 0, none⟩) 0 0 [] := own_empty (w1.alloc (.cells #[] 3)) w.heap.size (w1.heap.size + 1) (by simp) (by omega)
  refine ⟨⟨_, _, _, _, rfl, o1.bel ((Below.refl _ _).alloc (Nat.le_refl _) _), o2, w1.heap.size + 1, by omega, by simp, fun p e => ?_, fun p e => ?_⟩, (hb.out.alloc hz _).alloc (by simp; omega) _⟩
  · cases e; simp; omega
  · cases e; simp

set_option maxHeartbeats 800000 in
theorem turnS_yes (a a' : Option Addr) (n m cap cap' : Nat) (xs ys : List Int) (w : World) (h : Row w a n xs) (h' : Row w a' m ys) (hv : sumsB xs ys = true) :
    Calls Try.prog 34 #[.slice a n cap, .slice a' m cap'] w (GivesT w n (restL xs m) m (restL ys n) true) := by
  have hp := sumsB_parts hv
  rw [h.1, h'.1] at hp
  obtain ⟨⟨hn1, hn6⟩, ⟨hm1, hm6⟩, hx, hy⟩ := hp
  have hs := sumsV_impl a a' n m cap cap' xs ys w h h' (by omega) (by omega)
  rw [hv] at hs
  have lx := h.1
  have ly := h'.1
  have h := Lib.hid h
  have h' := Lib.hid h'
  have hx := Lib.hid hx
  have hy := Lib.hid hy
  clear hv
  go_enter Try.func34, Try.ntmps34
  go_wp2_with fail
  refine hs.mono ?_
  rintro e w1 ⟨rfl, hb⟩
  have hz := hb.size
  replace h := Lib.hid (h.out.bel hb)
  replace h' := Lib.hid (h'.out.bel hb)
  replace hb := Lib.hid hb
  go_wp2_with fail
  refine (rests_impl a n cap xs m w1 h.out hn6 hm6 (fun i hi => hx.out i (by omega))).mono ?_
  rintro e w2 ⟨⟨b1, c1, rfl, ho1⟩, hb2⟩
  have hz2 := hb2.size
  have r1 := rng_own ho1
  replace h' := Lib.hid (h'.out.bel hb2)
  replace ho1 := Lib.hid ho1
  replace hb := Lib.hid (hb.out.trans (hb2.mono hz))
  clear hb2
  go_wp2_with fail
  refine (rests_impl a' m cap' ys n w2 h'.out hm6 hn6 (fun i hi => hy.out i (by omega))).mono ?_
  rintro e w3 ⟨⟨b2, c2, rfl, ho2⟩, hb3⟩
  have hz3 := hb3.size
  have r2 := rng_own ho2
  replace ho1 := Lib.hid (ho1.out.bel hb3)
  replace ho2 := Lib.hid ho2
  replace hb := Lib.hid (hb.out.trans (hb3.mono (by omega)))
  clear hb3
  go_wp2_with fail
  refine bodyPost_ret (v := .tuple #[.slice b1 n c1, .slice b2 m c2, .bool true]) (by simp [results, Try.results34, go_sem]) rfl ?_
  refine ⟨⟨_, _, _, _, rfl, ho1.out.mono hz, ho2.out.mono (by omega), w2.heap.size, by omega, hz3, fun p e => ?_, fun p e => r2 p e⟩, hb.out⟩
  have := r1 p e
  omega

set_option maxHeartbeats 1600000 in
theorem turnS_spec (a a' : Option Addr) (n m cap cap' : Nat) (xs ys : List Int) (w : World) (h : Row w a n xs) (h' : Row w a' m ys) (hv : sumsB xs ys = true) :
    Calls Try.prog 35 #[.slice a n cap, .slice a' m cap'] w (GivesTS w n (restL xs m) m (restL ys n) true) := by
  have hp := sumsB_parts hv
  rw [h.1, h'.1] at hp
  obtain ⟨⟨hn1, hn6⟩, ⟨hm1, hm6⟩, hx, hy⟩ := hp
  obtain ⟨i0, hi, hz0, hz1, hz2⟩ := info_parts infoInt
  obtain ⟨W0, hW0⟩ : ∃ W0, W0 = (w.alloc (.cells #[] 3)).alloc (.cells #[] 3) := ⟨_, rfl⟩
  have hb0 : Below w.heap.size w W0 := by subst hW0; exact ((Below.refl _ _).alloc (Nat.le_refl _) _).alloc (by simp) _
  have oR : OwnI W0 w.heap.size (some ⟨w.heap.size, 0, none⟩) 0 0 [] := by subst hW0; exact OwnI.bel (show OwnI (w.alloc (.cells #[] 3)) w.heap.size (some ⟨w.heap.size, 0, none⟩) 0 0 [] from own_empty w w.heap.size w.heap.size rfl (Nat.le_refl _)) ((Below.refl _ _).alloc (Nat.le_refl _) _)
  have oC : OwnI W0 w.heap.size (some ⟨w.heap.size + 1, 0, none⟩) 0 0 [] := by subst hW0; exact own_empty (w.alloc (.cells #[] 3)) w.heap.size (w.heap.size + 1) (by simp) (by omega)
  have hs0 : W0.heap.size = w.heap.size + 2 := by subst hW0; simp
  have hs := sumsV_spec a a' n m cap cap' xs ys W0 (h.bel hb0) (h'.bel hb0) (by omega) (by omega)
  rw [hv] at hs
  have lx := h.1
  have ly := h'.1
  have h := Lib.hid h
  have h' := Lib.hid h'
  have hx := Lib.hid hx
  have hy := Lib.hid hy
  have hb0 := Lib.hid hb0
  have oR := Lib.hid oR
  have oC := Lib.hid oC
  clear hv
  go_enter Try.func35, Try.ntmps35
  go_wp2_with fail
  rw [← hW0]
  clear hW0
  refine hs.mono ?_
  rintro e w1 ⟨rfl, hb⟩
  have hz := hb.size
  replace oR := Lib.hid (oR.out.bel hb)
  replace oC := Lib.hid (oC.out.bel hb)
  replace hb0 := Lib.hid (hb0.out.trans (hb.mono (by omega)))
  clear hb
  go_wp2_with fail
  go_loopw [7, 9] (fun o i wr => ∃ (k g c : Nat), k ≤ n ∧ i = .int .i64 k ∧ o = .slice (some ⟨g, 0, none⟩) k c ∧ g ≠ w.heap.size + 1 ∧ Hid (OwnI wr w.heap.size (some ⟨g, 0, none⟩) k c (rowsL (fun i => (m : Int) - xs.getD i 0) k)) ∧ Hid (OwnI wr w.heap.size (some ⟨w.heap.size + 1, 0, none⟩) 0 0 []) ∧ Hid (Below w.heap.size w wr)) (fun _ i _ => n - (intOf i).toNat)
  case atStart => exact ⟨0, _, 0, Nat.zero_le _, rfl, rfl, by omega, oR, oC, hb0⟩
  case round =>
    obtain ⟨k, g, c, hk, rfl, rfl, hgn, hO, hC, hB⟩ := hrel
    clear oR oC hb0
    by_cases hlt : k < n
    · obtain ⟨b, off, rfl, hck⟩ := row_at (h.out.bel hB.out) hlt
      have hxk := hx.out k hlt
      have hsn : Hid (rowsL (fun i => (m : Int) - xs.getD i 0) (k + 1) = rowsL (fun i => (m : Int) - xs.getD i 0) k ++ [(m : Int) - xs.getD k 0]) := rows_snoc _ k
      generalize xs.getD k 0 = x at hxk hck hsn
      generalize rowsL (fun i => (m : Int) - xs.getD i 0) k = L at hO hsn
      have hBs := hB.out.size
      have hcl := own_ge hC.out
      go_wp2_with (at_builtin; refine wpList_append_own_at _ rfl _ _ 23 rfl w.heap.size 3 i0 (.int .i64 0) 1 8 Try.underlying23 hi hz0 hz1 hz2 rfl (by decide) _ k (L.map (Value.int .i64)) rfl (World.ownsRow.alloc hO.out _) ⟨wr.heap.size, 0, none⟩ 1 1 [.int .i64 ((m : Int) - x)] rfl rfl ?c1 ?c2 ?c3 ?c4 ?c5 ?_)
      all_goals (first | with_reducible exact one_new _ _ | skip)
      case c2 => first | rfl | exact one_cell _
      case c3 => unfold maxLen; omega
      case c4 => omega
      case c5 => first | omega | (simp; omega)
      intro v' w3 hown hgr _ hblk
      obtain ⟨a2, cap2, rfl, ho3⟩ := own_of (xs := rowsL (fun i => (m : Int) - xs.getD i 0) (k + 1)) (by rw [hsn.out, List.map_append]; exact hown)
      have hb3 := app_bel hO.out hgr rfl hBs
      have hB3 := Lib.hid (hB.out.trans hb3)
      have hgr2 : (wr.alloc (.cells #[.int .i64 ((m : Int) - x)] 3)).grownBy w3 (some g) := hgr
      have oC3 : OwnI w3 w.heap.size (some ⟨w.heap.size + 1, 0, none⟩) 0 0 [] := World.ownsRow.kept (hC.out.bel ((Below.refl _ _).alloc (Nat.le_refl _) _)) hgr2 (.inr (by simp [Value.ownBlock]; omega))
      obtain ⟨g2, rfl⟩ : ∃ g, a2 = some ⟨g, 0, none⟩ := by
        rcases ho3.cases with ⟨_, h, _⟩ | ⟨g, h, _⟩
        · omega
        · exact ⟨g, h⟩
      have hg2 : g2 ≠ w.heap.size + 1 := by simp [Value.ownBlock] at hblk; omega
      replace ho3 := Lib.hid ho3
      replace oC3 := Lib.hid oC3
      clear hown hgr hgr2 hb3 hblk hO hC hB
      go_wp2_with fail
      exact ⟨⟨k + 1, g2, cap2, by omega, by go_num, rfl, hg2, ho3, oC3, hB3⟩, by simp [intOf]; omega⟩
    · have : k = n := by omega
      subst this
      rw [show rowsL (fun i => (m : Int) - xs.getD i 0) k = restL xs m by unfold restL; rw [lx]] at hO
      go_wp2_with fail
      go_loopw [8, 10] (fun o i wr2 => ∃ (j g' c' : Nat), j ≤ m ∧ i = .int .i64 j ∧ o = .slice (some ⟨g', 0, none⟩) j c' ∧ g' ≠ g ∧ Hid (OwnI wr2 w.heap.size (some ⟨g', 0, none⟩) j c' (rowsL (fun i => (k : Int) - ys.getD i 0) j)) ∧ Hid (OwnI wr2 w.heap.size (some ⟨g, 0, none⟩) k c (restL xs m)) ∧ Hid (Below w.heap.size w wr2)) (fun _ i _ => m - (intOf i).toNat)
      case atStart => exact ⟨0, _, 0, Nat.zero_le _, rfl, rfl, by omega, hC, hO, hB⟩
      case round =>
        obtain ⟨j, g', c', hj, rfl, rfl, hgn', hO2, hC2, hB2⟩ := hrel
        clear hO hC hB
        by_cases hlj : j < m
        · obtain ⟨b, off, rfl, hck⟩ := row_at (h'.out.bel hB2.out) hlj
          have hxk := hy.out j hlj
          have hsn : Hid (rowsL (fun i => (k : Int) - ys.getD i 0) (j + 1) = rowsL (fun i => (k : Int) - ys.getD i 0) j ++ [(k : Int) - ys.getD j 0]) := rows_snoc _ j
          generalize ys.getD j 0 = x at hxk hck hsn
          generalize rowsL (fun i => (k : Int) - ys.getD i 0) j = L at hO2 hsn
          have hBs := hB2.out.size
          have hcl := own_ge hC2.out
          go_wp2_with (at_builtin; refine wpList_append_own_at _ rfl _ _ 23 rfl w.heap.size 3 i0 (.int .i64 0) 1 8 Try.underlying23 hi hz0 hz1 hz2 rfl (by decide) _ j (L.map (Value.int .i64)) rfl (World.ownsRow.alloc hO2.out _) ⟨wr.heap.size, 0, none⟩ 1 1 [.int .i64 ((k : Int) - x)] rfl rfl ?d1 ?d2 ?d3 ?d4 ?d5 ?_)
          all_goals (first | with_reducible exact one_new _ _ | skip)
          case d2 => first | rfl | exact one_cell _
          case d3 => unfold maxLen; omega
          case d4 => omega
          case d5 => first | omega | (simp; omega)
          intro v' w3 hown hgr _ hblk
          obtain ⟨a2, cap2, rfl, ho3⟩ := own_of (xs := rowsL (fun i => (k : Int) - ys.getD i 0) (j + 1)) (by rw [hsn.out, List.map_append]; exact hown)
          have hb3 := app_bel hO2.out hgr rfl hBs
          have hB3 := Lib.hid (hB2.out.trans hb3)
          have hgr2 : (wr.alloc (.cells #[.int .i64 ((k : Int) - x)] 3)).grownBy w3 (some g') := hgr
          have oC3 : OwnI w3 w.heap.size (some ⟨g, 0, none⟩) k c (restL xs m) := World.ownsRow.kept (hC2.out.bel ((Below.refl _ _).alloc (Nat.le_refl _) _)) hgr2 (.inr (by simp [Value.ownBlock]; omega))
          obtain ⟨g2, rfl⟩ : ∃ g, a2 = some ⟨g, 0, none⟩ := by
            rcases ho3.cases with ⟨_, h, _⟩ | ⟨g, h, _⟩
            · omega
            · exact ⟨g, h⟩
          have hg2 : g2 ≠ g := by simp [Value.ownBlock] at hblk; omega
          replace ho3 := Lib.hid ho3
          replace oC3 := Lib.hid oC3
          clear hown hgr hgr2 hb3 hblk hO2 hC2 hB2
          go_wp2_with fail
          exact ⟨⟨j + 1, g2, cap2, by omega, by go_num, rfl, hg2, ho3, oC3, hB3⟩, by simp [intOf]; omega⟩
        · have : j = m := by omega
          subst this
          rw [show rowsL (fun i => (k : Int) - ys.getD i 0) j = restL ys k by unfold restL; rw [ly]] at hO2
          go_wp2_with fail
          refine bodyPost_ret (v := .tuple #[.slice (some ⟨g, 0, none⟩) k c, .slice (some ⟨g', 0, none⟩) j c', .bool true]) (by simp [results, Try.results35, go_sem]) rfl ?_
          exact ⟨⟨_, _, _, _, rfl, hC2.out, hO2.out⟩, hB2.out⟩

set_option maxHeartbeats 800000 in
theorem turnS_sno (a a' : Option Addr) (n m cap cap' : Nat) (xs ys : List Int) (w : World) (h : Row w a n xs) (h' : Row w a' m ys) (hm : n ≤ 9223372036854775807) (hm' : m ≤ 9223372036854775807) (hv : sumsB xs ys = false) :
    Calls Try.prog 35 #[.slice a n cap, .slice a' m cap'] w (GivesTS w 0 [] 0 [] false) := by
  obtain ⟨W0, hW0⟩ : ∃ W0, W0 = (w.alloc (.cells #[] 3)).alloc (.cells #[] 3) := ⟨_, rfl⟩
  have hb0 : Below w.heap.size w W0 := by subst hW0; exact ((Below.refl _ _).alloc (Nat.le_refl _) _).alloc (by simp) _
  have oR : OwnI W0 w.heap.size (some ⟨w.heap.size, 0, none⟩) 0 0 [] := by subst hW0; exact OwnI.bel (show OwnI (w.alloc (.cells #[] 3)) w.heap.size (some ⟨w.heap.size, 0, none⟩) 0 0 [] from own_empty w w.heap.size w.heap.size rfl (Nat.le_refl _)) ((Below.refl _ _).alloc (Nat.le_refl _) _)
  have oC : OwnI W0 w.heap.size (some ⟨w.heap.size + 1, 0, none⟩) 0 0 [] := by subst hW0; exact own_empty (w.alloc (.cells #[] 3)) w.heap.size (w.heap.size + 1) (by simp) (by omega)
  have hs := sumsV_spec a a' n m cap cap' xs ys W0 (h.bel hb0) (h'.bel hb0) hm hm'
  rw [hv] at hs
  have hz0 := hb0.size
  have hb0 := Lib.hid hb0
  have oR := Lib.hid oR
  have oC := Lib.hid oC
  clear hv h h'
  go_enter Try.func35, Try.ntmps35
  go_wp2_with fail
  rw [← hW0]
  clear hW0
  refine hs.mono ?_
  rintro e w1 ⟨rfl, hb⟩
  replace hb := Lib.hid hb
  go_wp2_with fail
  refine bodyPost_ret (v := .tuple #[.slice (some ⟨w.heap.size, 0, none⟩) 0 0, .slice (some ⟨w.heap.size + 1, 0, none⟩) 0 0, .bool false]) (by simp [results, Try.results35, go_sem]) rfl ?_
  exact ⟨⟨_, _, _, _, rfl, oR.out.bel hb.out, oC.out.bel hb.out⟩, hb0.out.trans (hb.out.mono hz0)⟩

/-- What SumsTurn gives. -/
def tuL (xs ys : List Int) : List Int := if sumsB xs ys = true then restL xs ys.length else []
def tuR (xs ys : List Int) : List Int := if sumsB xs ys = true then restL ys xs.length else []
theorem tu_len (xs ys : List Int) : (tuL xs ys).length ≤ 6 ∧ (tuR xs ys).length ≤ 6 := by
  unfold tuL tuR
  by_cases h : sumsB xs ys = true
  · rw [if_pos h, if_pos h, rest_len, rest_len]; have := sumsB_parts h; omega
  · rw [if_neg h, if_neg h]; simp
theorem turnA_impl (a a' : Option Addr) (n m cap cap' : Nat) (xs ys : List Int) (w : World) (h : Row w a n xs) (h' : Row w a' m ys) (hm : n ≤ 9223372036854775807) (hm' : m ≤ 9223372036854775807) :
    Calls Try.prog 34 #[.slice a n cap, .slice a' m cap'] w (GivesT w (tuL xs ys).length (tuL xs ys) (tuR xs ys).length (tuR xs ys) (sumsB xs ys)) := by
  by_cases hv : sumsB xs ys = true
  · unfold tuL tuR
    rw [if_pos hv, if_pos hv, rest_len, rest_len, hv, h.1, h'.1]
    exact turnS_yes a a' n m cap cap' xs ys w h h' hv
  · have hv' : sumsB xs ys = false := by simpa using hv
    unfold tuL tuR
    rw [if_neg hv, if_neg hv, hv']
    exact turnS_no a a' n m cap cap' xs ys w h h' hm hm' hv'
theorem turnA_spec (a a' : Option Addr) (n m cap cap' : Nat) (xs ys : List Int) (w : World) (h : Row w a n xs) (h' : Row w a' m ys) (hm : n ≤ 9223372036854775807) (hm' : m ≤ 9223372036854775807) :
    Calls Try.prog 35 #[.slice a n cap, .slice a' m cap'] w (GivesTS w (tuL xs ys).length (tuL xs ys) (tuR xs ys).length (tuR xs ys) (sumsB xs ys)) := by
  by_cases hv : sumsB xs ys = true
  · unfold tuL tuR
    rw [if_pos hv, if_pos hv, rest_len, rest_len, hv, h.1, h'.1]
    exact turnS_spec a a' n m cap cap' xs ys w h h' hv
  · have hv' : sumsB xs ys = false := by simpa using hv
    unfold tuL tuR
    rw [if_neg hv, if_neg hv, hv']
    exact turnS_sno a a' n m cap cap' xs ys w h h' hm hm' hv'

/-- What the columns take, as far as a column. -/
def roomI (ys : List Int) (c : Int) (k : Nat) : Int := sumI (fun j => min (ys.getD j 0) c) k
theorem roomI_succ (ys : List Int) (c : Int) (k : Nat) : roomI ys c (k + 1) = roomI ys c k + min (ys.getD k 0) c := rfl
theorem roomI_all (ys : List Int) (c : Int) : roomI ys c ys.length = room ys c := rfl
theorem roomI_bd {ys : List Int} (h : ∀ i, i < ys.length → 0 ≤ ys.getD i 0 ∧ ys.getD i 0 ≤ 6) {c : Int} (hc : 0 ≤ c) {k : Nat} (hk : k ≤ ys.length) : 0 ≤ roomI ys c k ∧ roomI ys c k ≤ 6 * k :=
  sum_small fun i hi => by have := h i (by omega); (try dsimp only); omega

set_option maxHeartbeats 400000 in
theorem room_impl (a : Option Addr) (m cap : Nat) (ys : List Int) (c : Nat) (w : World) (h : Row w a m ys) (hm : m ≤ 6) (hc : c ≤ 6) (hb : ∀ i, i < ys.length → 0 ≤ ys.getD i 0 ∧ ys.getD i 0 ≤ 6) :
    Calls Try.prog 66 #[.slice a m cap, .int .i64 c] w fun e w' => e = .returned (.int .i64 (room ys c)) ∧ w = w' := by
  have hl := h.1
  have hs : Hid (∀ k, k ≤ m → 0 ≤ roomI ys c k ∧ roomI ys c k ≤ 6 * k) := fun k hk => roomI_bd hb (by omega) (by omega)
  have hb := Lib.hid hb
  have h := Lib.hid h
  go_enter Try.func66, Try.ntmps66
  go_wp2_with fail
  go_loop [5, 10] (fun o i => ∃ j : Nat, j ≤ m ∧ i = .int .i64 j ∧ o = .int .i64 (roomI ys c j)) (fun _ i => m - (intOf i).toNat)
  case atStart => exact ⟨0, Nat.zero_le _, rfl, rfl⟩
  case round =>
    obtain ⟨j, hj, rfl, rfl⟩ := hrel
    have hsj := hs.out j hj
    by_cases hlt : j < m
    · obtain ⟨b, off, rfl, hck⟩ := row_at h.out hlt
      have hx := hb.out j (by omega)
      have hsn := roomI_succ ys c j
      generalize roomI ys c j = q at hsj hsn
      generalize ys.getD j 0 = x at hck hx hsn
      replace hsn := Lib.hid hsn
      go_wp2_with fail
      exact ⟨⟨j + 1, by omega, by go_num, by first | (rw [hsn.out]; done) | exact int_eq (by rw [hsn.out]; omega)⟩, by simp [intOf]; omega⟩
    · have : j = m := by omega
      subst this
      rw [show roomI ys c j = room ys c by rw [← hl]; exact roomI_all ys c]
      go_wp2_with fail
      go_ret
      exact ⟨rfl, rfl⟩

theorem exI_bd {p ys : List Int} (hP : Par p) (hy : ∀ i, i < ys.length → 0 ≤ ys.getD i 0 ∧ ys.getD i 0 ≤ 6) (k : Nat) : 0 ≤ exI p ys k ∧ exI p ys k ≤ 36 := by
  refine ⟨exI_nn _ _ _, exI_le.2 ⟨by omega, fun t _ _ => ?_⟩⟩
  have h1 := hP.psum_36 t
  have h2 := (room_bd hy (show (0 : Int) ≤ t by omega)).1
  omega
theorem exI_succ (p ys : List Int) (k : Nat) : exI p ys (k + 1) = max (exI p ys k) (psum p (k + 1) - room ys ((k : Int) + 1)) := rfl

set_option maxHeartbeats 1600000 in
theorem excess_impl (a a' : Option Addr) (n m cap cap' : Nat) (xs ys : List Int) (w : World) (h : Row w a n xs) (h' : Row w a' m ys) (hm : n ≤ 9223372036854775807) (hm' : m ≤ 9223372036854775807) :
    Calls Try.prog 31 #[.slice a n cap, .slice a' m cap'] w fun e w' => e = .returned (.int .i64 (excOf xs ys)) ∧ Below w.heap.size w w' := by
  have hs := sumsV_impl a a' n m cap cap' xs ys w h h' hm hm'
  by_cases hv : sumsB xs ys = true
  case neg =>
    have hv : sumsB xs ys = false := by simpa using hv
    rw [excOf_no hv]
    rw [hv] at hs
    clear hv h h'
    go_enter Try.func31, Try.ntmps31
    go_wp2_with fail
    refine hs.mono ?_
    rintro e w1 ⟨rfl, hb⟩
    replace hb := Lib.hid hb
    go_wp2_with fail
    go_ret
    exact ⟨rfl, hb.out⟩
  rw [excOf_yes hv]
  rw [hv] at hs
  obtain ⟨hx, hy⟩ := sums_el hv
  have hp := sumsB_parts hv
  rw [h.1, h'.1] at hp
  obtain ⟨⟨hn1, hn6⟩, ⟨hm1, hm6⟩, _, _⟩ := hp
  have lx := h.1
  have hP := Lib.hid (sort_par hx)
  have hyb := Lib.hid (el_parts hy).2
  have heb : Hid (∀ k, 0 ≤ exI (sortL xs) ys k ∧ exI (sortL xs) ys k ≤ 36) := exI_bd hP.out hyb.out
  have hx := Lib.hid hx
  have h := Lib.hid h
  have h' := Lib.hid h'
  clear hv hy
  go_enter Try.func31, Try.ntmps31
  go_wp2_with fail
  refine hs.mono ?_
  rintro e w1 ⟨rfl, hb⟩
  have hz := hb.size
  replace h := Lib.hid (h.out.bel hb)
  replace h' := Lib.hid (h'.out.bel hb)
  replace hb := Lib.hid hb
  go_wp2_with fail
  refine (ptOf_impl a n cap xs w1 h.out hx.out).mono ?_
  rintro e w2 ⟨⟨a1, c1, rfl, ho⟩, hb2⟩
  have hc1 := ho.cap
  have hR := Lib.hid ho.row
  replace h' := Lib.hid (h'.out.bel hb2)
  replace hb := Lib.hid (hb.out.trans (hb2.mono hz))
  clear ho hb2 h
  go_wp2_with fail
  go_loop [6, 7] (fun o i => ∃ t : Nat, t ≤ n ∧ i = .int .i64 ((t : Int) + 1) ∧ o = .int .i64 (exI (sortL xs) ys t)) (fun _ i => n + 1 - (intOf i).toNat)
  case atStart => exact ⟨0, Nat.zero_le _, rfl, rfl⟩
  case round =>
    obtain ⟨t, ht, rfl, rfl⟩ := hrel
    have he := heb.out t
    by_cases hlt : t < n
    · have e1 := msum_impl a1 n c1 (sortL xs) ((t : Int) + 1) w2 hR.out hc1 hP.out (by omega)
      rw [show ((t : Int) + 1).toNat = t + 1 by omega] at e1
      have e2 := room_impl a' m cap' ys (t + 1) w2 h'.out hm6 (by omega) hyb.out
      rw [show ((t + 1 : Nat) : Int) = (t : Int) + 1 by omega] at e2
      have b1 := hP.out.psum_36 (t + 1)
      have b2 := room_bd hyb.out (show (0 : Int) ≤ (t : Int) + 1 by omega)
      have ly := h'.out.1
      have hsn := exI_succ (sortL xs) ys t
      generalize exI (sortL xs) ys t = q at he hsn
      generalize psum (sortL xs) (t + 1) = x at e1 b1 hsn
      generalize room ys ((t : Int) + 1) = y at e2 b2 hsn
      replace hsn := Lib.hid hsn
      go_wp2_with fail
      refine e1.mono ?_
      rintro e w3 ⟨rfl, rfl⟩
      go_wp2_with fail
      refine e2.mono ?_
      rintro e w3 ⟨rfl, rfl⟩
      go_wp2_with fail
      exact ⟨⟨t + 1, by omega, by go_num, by first | (rw [hsn.out]; done) | exact int_eq (by rw [hsn.out]; omega)⟩, by simp [intOf]; omega⟩
    · have : t = n := by omega
      subst this
      rw [show exI (sortL xs) ys t = excI xs ys by unfold excI; rw [lx]]
      go_wp2_with fail
      go_ret
      exact ⟨rfl, hb.out⟩

set_option maxHeartbeats 1600000 in
theorem excess_spec (a a' : Option Addr) (n m cap cap' : Nat) (xs ys : List Int) (w : World) (h : Row w a n xs) (h' : Row w a' m ys) (hm : n ≤ 9223372036854775807) (hm' : m ≤ 9223372036854775807) :
    Calls Try.prog 32 #[.slice a n cap, .slice a' m cap'] w fun e w' => e = .returned (.int .i64 (excOf xs ys)) ∧ Below w.heap.size w w' := by
  have hs := sumsV_spec a a' n m cap cap' xs ys w h h' hm hm'
  by_cases hv : sumsB xs ys = true
  case neg =>
    have hv : sumsB xs ys = false := by simpa using hv
    rw [excOf_no hv]
    rw [hv] at hs
    clear hv h h'
    go_enter Try.func32, Try.ntmps32
    go_wp2_with fail
    refine hs.mono ?_
    rintro e w1 ⟨rfl, hb⟩
    replace hb := Lib.hid hb
    go_wp2_with fail
    go_ret
    exact ⟨rfl, hb.out⟩
  rw [excOf_yes hv]
  rw [hv] at hs
  obtain ⟨hx, hy⟩ := sums_el hv
  have hp := sumsB_parts hv
  rw [h.1, h'.1] at hp
  obtain ⟨⟨hn1, hn6⟩, ⟨hm1, hm6⟩, _, _⟩ := hp
  have lx := h.1
  have ly := h'.1
  have hP := Lib.hid (sort_par hx)
  have hyb := Lib.hid (el_parts hy).2
  have heb : Hid (∀ k, 0 ≤ exI (sortL xs) ys k ∧ exI (sortL xs) ys k ≤ 36) := exI_bd hP.out hyb.out
  have hrb : Hid (∀ t k : Nat, k ≤ m → 0 ≤ roomI ys t k ∧ roomI ys t k ≤ 6 * k) := fun t k hk => roomI_bd hyb.out (by omega) (by omega)
  have hpo : partOfL xs = sortL xs := partOf_yes hx
  have hsl : (sortL xs).length = n := by rw [sort_len hx, lx]
  have hz0 := room_zero (xs := ys) (fun i hi => (hyb.out i hi).1)
  have hx := Lib.hid hx
  have h := Lib.hid h
  have h' := Lib.hid h'
  clear hv hy
  go_enter Try.func32, Try.ntmps32
  go_wp2_with fail
  refine hs.mono ?_
  rintro e w1 ⟨rfl, hb⟩
  have hz := hb.size
  replace h := Lib.hid (h.out.bel hb)
  replace h' := Lib.hid (h'.out.bel hb)
  replace hb := Lib.hid hb
  have hc := partOf_spec a n cap xs w1 h.out (by omega)
  rw [hpo, hx.out] at hc
  unfold GivesB at hc
  rw [hsl] at hc
  clear hpo hsl
  go_wp2_with fail
  refine hc.mono ?_
  rintro e w2 ⟨⟨a1, c1, rfl, ho⟩, hb2⟩
  have hR := Lib.hid ho.row
  replace h' := Lib.hid (h'.out.bel hb2)
  replace hb := Lib.hid (hb.out.trans (hb2.mono hz))
  clear ho hb2 h hc
  replace hz0 := Lib.hid hz0
  go_wp2_with fail
  go_loop [7, 8] (fun o i => ∃ t : Nat, t ≤ n + 1 ∧ i = .int .i64 t ∧ o = .int .i64 (exI (sortL xs) ys (t - 1))) (fun _ i => n + 1 - (intOf i).toNat)
  case atStart => exact ⟨0, Nat.zero_le _, rfl, rfl⟩
  case round =>
    obtain ⟨t, ht, rfl, rfl⟩ := hrel
    have he := heb.out (t - 1)
    by_cases hlt : t ≤ n
    · have e1 := l3sum_spec a1 n c1 (sortL xs) (t : Int) w2 hR.out hP.out (by omega)
      rw [Int.toNat_natCast] at e1
      have b1 := hP.out.psum_36 t
      have hsn : exI (sortL xs) ys t = max (exI (sortL xs) ys (t - 1)) (psum (sortL xs) t - room ys (t : Int)) := by
        by_cases e0 : t = 0
        · subst e0
          rw [show ((0 : Nat) : Int) = 0 from rfl, hz0.out, psum_zero]
          rfl
        · obtain ⟨s, rfl⟩ : ∃ s, t = s + 1 := ⟨t - 1, by omega⟩
          rw [show s + 1 - 1 = s by omega, show ((s + 1 : Nat) : Int) = (s : Int) + 1 by omega]; rfl
      have hrt : roomI ys t m = room ys t := by rw [← ly]; exact roomI_all ys t
      generalize exI (sortL xs) ys (t - 1) = q at he hsn
      generalize psum (sortL xs) t = x at e1 b1 hsn
      replace hsn := Lib.hid hsn
      replace hrt := Lib.hid hrt
      go_wp2_with fail
      refine e1.mono ?_
      rintro e w3 ⟨rfl, rfl⟩
      go_wp2_with fail
      go_loop [9, 10] (fun o i => ∃ j : Nat, j ≤ m ∧ i = .int .i64 j ∧ o = .int .i64 (x - roomI ys t j)) (fun _ i => m - (intOf i).toNat)
      case atStart => exact ⟨0, Nat.zero_le _, rfl, by rw [show roomI ys t 0 = 0 from rfl, Int.sub_zero]⟩
      case round =>
        obtain ⟨j, hj, rfl, rfl⟩ := hrel
        have hsj := hrb.out t j hj
        by_cases hlj : j < m
        · obtain ⟨b, off, rfl, hck⟩ := row_at h'.out hlj
          have hxj := hyb.out j (by omega)
          have hsm := roomI_succ ys t j
          generalize roomI ys t j = r at hsj hsm
          generalize ys.getD j 0 = v at hck hxj hsm
          replace hsm := Lib.hid hsm
          go_wp2_with fail
          exact ⟨⟨j + 1, by omega, by go_num, by first | (rw [hsm.out]; done) | exact int_eq (by rw [hsm.out]; omega)⟩, by simp [intOf]; omega⟩
        · have : j = m := by omega
          subst this
          rw [hrt.out] at hsj
          rw [hrt.out]
          generalize room ys t = r at hsj hsn
          go_wp2_with fail
          exact ⟨⟨t + 1, by omega, by go_num, by rw [Nat.add_sub_cancel]; first | (rw [hsn.out]; done) | exact int_eq (by rw [hsn.out]; omega)⟩, by simp [intOf]; omega⟩
    · have : t = n + 1 := by omega
      subst this
      rw [show exI (sortL xs) ys (n + 1 - 1) = excI xs ys by unfold excI; rw [lx]; rfl]
      go_wp2_with fail
      go_ret
      exact ⟨rfl, hb.out⟩
end Go.Proofs.Yteadibgjieimkaa

