/-
  The contracts of rowsWith and choicesOf: all rows of a width with a number of set cells; one such list for each row sum.
-/
import Derived.Test.YtnfkafaolelkbaaDoorJj
import Derived.Test.YtnfkafaolelkbaaDoorA
import Derived.Test.YtnfkafaolelkbaaDoorK
import Derived.Test.YtnfkafaolelkbaaDoorMd
namespace Go.Proofs.YtnfkafaolelkbaaDoor
set_option maxRecDepth 100000
open Go.RowKit

theorem cnt_low : ∀ W, W < 7 → ∀ m : Nat, m < pn W → cntI (m : Nat) 6 = cntI (m : Nat) W := by decide +kernel
theorem pn_64 {W : Nat} (h : W ≤ 6) : pn W ≤ 64 := by
  have := pn_int W
  have := pw_63 h
  omega
set_option maxHeartbeats 1600000 in
theorem rowsWith_any (W : Nat) (hW : W ≤ 6) (r : Int) (w : World) :
    Calls Tryd.prog 26 #[.int .i64 W, .int .i64 r] w fun e w' => (∃ g c, e = .returned (.slice (some ⟨g, 0, none⟩) (withL W r (pn W)).length c) ∧ OwnI w' w.heap.size (some ⟨g, 0, none⟩) (withL W r (pn W)).length c (withL W r (pn W))) ∧ Below w.heap.size w w' := by
  obtain ⟨P, hP⟩ : ∃ P, pn W = P := ⟨_, rfl⟩
  have hPi := pn_int W
  rw [hP] at hPi
  have hP64 : P ≤ 64 := by rw [← hP]; exact pn_64 hW
  have hlow := Lib.hid (fun (m : Nat) (hm : m < P) => cnt_low W (by omega) m (by omega))
  have hlen := Lib.hid (fun K => with_len W r K)
  have hnx := Lib.hid (fun K => show withL W r (K + 1) = withL W r K ++ if cntI (K : Nat) W = r then [(K : Int)] else [] from rfl)
  have cf := fun wx => full_any W wx (by omega)
  rw [← hPi] at cf
  have i1 : IntKind.i64.wrap ((P : Int) - 1 + 1) = (P : Int) := by rw [IntKind.wrap_i64]; omega
  have i2 : wrap64 ((P : Int) - 1 + 1) = (P : Int) := by unfold wrap64; omega
  rw [hP]
  replace hPi := Lib.hid hPi
  replace hP := Lib.hid hP
  have ho0 : Hid (OwnI (w.alloc (.cells #[] 3)) w.heap.size (some ⟨w.heap.size, 0, none⟩) 0 0 []) := own_empty w w.heap.size w.heap.size rfl (Nat.le_refl _)
  have hb0 : Hid (Below w.heap.size w (w.alloc (.cells #[] 3))) := (Below.refl _ _).alloc (Nat.le_refl _) _
  obtain ⟨W0, hW0⟩ : ∃ W0, W0 = w.alloc (.cells #[] 3) := ⟨_, rfl⟩
  rw [← hW0] at ho0 hb0
  go_enter Tryd.func26, Tryd.ntmps26
  go_upto_region 2 with fail
  rw [← hW0]
  clear hW0
  go_wp2_with fail
  refine (cf _).mono ?_
  rintro e w1 ⟨rfl, rfl⟩
  clear cf
  go_wp2_with fail
  go_loopw [5, 11] (fun o i wr => ∃ (k g c : Nat), k ≤ P ∧ i = .int .i64 k ∧ o = .slice (some ⟨g, 0, none⟩) (withL W r k).length c ∧ Hid (OwnI wr w.heap.size (some ⟨g, 0, none⟩) (withL W r k).length c (withL W r k)) ∧ Hid (Below w.heap.size w wr)) (fun _ i _ => P - (intOf i).toNat)
  case atStart => exact ⟨0, _, 0, Nat.zero_le _, rfl, rfl, ho0, hb0⟩
  case round =>
    clear ho0 hb0
    obtain ⟨k, g, c, hk, rfl, rfl, hO, hB⟩ := hrel
    obtain ⟨wo, rfl⟩ : ∃ wo : World, wo = wr := ⟨_, rfl⟩
    have hBs := hB.out.size
    have hl := hlen.out k
    have hx := hnx.out k
    obtain ⟨L, hL⟩ : ∃ L, withL W r k = L := ⟨_, rfl⟩
    rw [hL] at hO hl hx ⊢
    obtain ⟨N, hN⟩ : ∃ N, L.length = N := ⟨_, rfl⟩
    rw [hN] at hO hl ⊢
    replace hL := Lib.hid hL
    replace hN := Lib.hid hN
    by_cases hlt : k < P
    · have hc := hlow.out k hlt
      have cm := rmany_any (k : Int) wo (by omega) (by omega)
      rw [hc] at cm
      obtain ⟨C, hC⟩ : ∃ C, cntI (k : Nat) W = C := ⟨_, rfl⟩
      rw [hC] at cm hx
      clear hc hC
      by_cases e : C = r
      · subst e
        rw [if_pos rfl] at hx
        replace hx := Lib.hid hx
        go_wp2_with fail
        refine cm.mono ?_
        rintro e w1 ⟨rfl, rfl⟩
        go_wp2_with (at_builtin; refine wpList_append_int rfl _ _ rfl w.heap.size g N c L rfl (World.ownsRow.alloc hO.out _) wo.heap.size rfl (k : Int) (by simp) (by omega) (by simp; omega) ?_)
        intro g' c' w3 hown hgr hlies
        have hown : OwnI w3 w.heap.size (some ⟨g', 0, none⟩) (N + 1) c' (L ++ [(k : Int)]) := by unfold OwnI; simpa using hown
        have hgg : w.heap.size ≤ g ∧ g < wo.heap.size := rng_own hO.out _ rfl
        have hB3 := Lib.hid ((hB.out.alloc hBs (.cells #[.int .i64 (k : Int)] 3)).grown hgr (by simp; omega) (fun q hq => by cases hq; exact hgg.1))
        replace hown := Lib.hid hown
        clear hgr hlies hO hB hgg
        go_wp2_with fail
        refine ⟨⟨k + 1, g', c', by omega, by go_num, ?_, ?_, hB3⟩, by simp [intOf]; omega⟩
        · rw [hx.out, List.length_append, hN.out]; rfl
        · rw [hx.out, List.length_append, hN.out]; exact hown
      · rw [if_neg e, List.append_nil] at hx
        replace hx := Lib.hid hx
        have e2 : (C == r) = false := by simpa using e
        go_wp2_with fail
        refine cm.mono ?_
        rintro e w1 ⟨rfl, rfl⟩
        go_wp2_with fail
        refine ⟨⟨k + 1, g, c, by omega, by go_num, ?_, ?_, hB⟩, by simp [intOf]; omega⟩
        · rw [hx.out, hN.out]
        · rw [hx.out, hN.out]; exact hO
    · obtain rfl : k = P := by omega
      go_wp2_with fail
      go_ret
      exact ⟨⟨g, c, by rw [hL.out, hN.out]; rfl, by rw [hL.out, hN.out]; exact hO.out⟩, hB.out⟩
/-- A list of lists that can be read. -/
def RowsAt (w : World) (a : Option Addr) (n : Nat) (C : List (List Int)) : Prop :=
  C.length = n ∧ (n = 0 ∨ ∃ b off, a = some ⟨b, off, none⟩ ∧ ∀ i (h : i < C.length), ∃ a' c, w.cell? ⟨b, off + i, none⟩ = some (.slice a' C[i].length c) ∧ Row w a' C[i].length C[i])
theorem RowsAt.bel {w w' : World} {a : Option Addr} {n : Nat} {C : List (List Int)} (h : RowsAt w a n C) (hb : Below w.heap.size w w') : RowsAt w' a n C := by
  refine ⟨h.1, h.2.imp id ?_⟩
  rintro ⟨b, off, e, hc⟩
  exact ⟨b, off, e, fun i hi => by
    obtain ⟨a', c, h1, h2⟩ := hc i hi
    exact ⟨a', c, kept hb (block_lt h1) h1, h2.bel hb⟩⟩
/-- Such a list of the call's own, as far as it is filled; each of its lists lies in a block of its own. -/
def ChAt (B : Nat) (wr : World) (g n : Nat) (C : List (List Int)) : Prop :=
  ∃ (vals : List Value) (bs : List Nat), wr.ownsRow B 23 1 (.slice (some ⟨g, 0, none⟩) n n) n vals ∧ bs.length = C.length ∧ C.length ≤ n ∧ (g :: bs).Nodup ∧ ∀ q (h : q < C.length), ∃ c, vals[q]? = some (.slice (some ⟨bs.getD q 0, 0, none⟩) C[q].length c) ∧ OwnI wr B (some ⟨bs.getD q 0, 0, none⟩) C[q].length c C[q]
theorem own_ltI {w : World} {B g n c : Nat} {xs : List Int} (h : OwnI w B (some ⟨g, 0, none⟩) n c xs) : g < w.heap.size := (rng_own h _ rfl).2
variable {B g n : Nat} {wr w1 : World} {C : List (List Int)}
theorem own_ltR {e : TypeId} {sz c : Nat} {vals : List Value} (h : wr.ownsRow B e sz (.slice (some ⟨g, 0, none⟩) n c) n vals) : B ≤ g ∧ g < wr.heap.size := by
  rcases h.2 with ⟨e, _⟩ | ⟨q, c, cur, e, hB, hh, _⟩
  · cases e
  · cases e; exact ⟨hB, (Array.getElem?_eq_some_iff.1 hh).1⟩
theorem ChAt.bel (h : ChAt B wr g n C) (hb : Below wr.heap.size wr w1) : ChAt B w1 g n C := by
  obtain ⟨vals, bs, h1, h2, h3, h4, h5⟩ := h
  refine ⟨vals, bs, World.ownsRow.kept h1 (below_grown hb none) (.inr (by simp [Value.ownBlock])), h2, h3, h4, fun q hq => ?_⟩
  obtain ⟨c, e1, e2⟩ := h5 q hq
  exact ⟨c, e1, e2.bel hb⟩
theorem ChAt.far (h : ChAt B wr g n C) : B ≤ g ∧ g < wr.heap.size := by
  obtain ⟨vals, bs, h1, _⟩ := h
  exact own_ltR h1
theorem ChAt.read (h : ChAt B wr g n C) (hn : C.length = n) : RowsAt wr (some ⟨g, 0, none⟩) n C := by
  obtain ⟨vals, bs, h1, h2, h3, h4, h5⟩ := h
  refine ⟨hn, .inr ⟨g, 0, rfl, fun i hi => ?_⟩⟩
  obtain ⟨c, e1, e2⟩ := h5 i hi
  exact ⟨_, c, by rw [Nat.zero_add, World.ownsRow.cellAt h1 _ (by omega), e1], e2.row⟩
/-- One list more is stored. -/
theorem ChAt.push (h : ChAt B wr g n C) {b c : Nat} {L : List Int} (hq : C.length < n) (hb : Below wr.heap.size wr w1) (hL : OwnI w1 wr.heap.size (some ⟨b, 0, none⟩) L.length c L) (hB : B ≤ wr.heap.size) :
    ChAt B (w1.setCell ⟨g, C.length, none⟩ (.slice (some ⟨b, 0, none⟩) L.length c)) g n (C ++ [L]) := by
  have hf := h.far
  have hbr : wr.heap.size ≤ b ∧ b < w1.heap.size := rng_own hL _ rfl
  obtain ⟨vals, bs, h1, h2, h3, h4, h5⟩ := h
  have h1' := World.ownsRow.kept h1 (below_grown hb none) (.inr (by simp [Value.ownBlock]))
  have hv : vals.length = n := by have := h1.1; omega
  have hg : w1.grownBy (w1.setCell ⟨g, C.length, none⟩ (.slice (some ⟨b, 0, none⟩) L.length c)) (some g) := grown_set (World.grownBy.refl _ _)
  have hlt : ∀ q, q < C.length → bs.getD q 0 < wr.heap.size := fun q hq => by
    obtain ⟨c, _, e2⟩ := h5 q hq
    exact own_ltI e2
  refine ⟨vals.set C.length (.slice (some ⟨b, 0, none⟩) L.length c), bs ++ [b], (World.ownsRow.stored h1' C.length _).1, by simp [h2], by rw [List.length_append, List.length_singleton]; omega, ?_, fun q hq => ?_⟩
  · have hnb : b ∉ bs := fun hm => by
      obtain ⟨q, hq, e⟩ := List.getElem_of_mem hm
      have := hlt q (by omega)
      rw [show bs.getD q 0 = bs[q] by simp [hq]] at this
      omega
    obtain ⟨d1, d2⟩ := List.nodup_cons.1 h4
    refine List.nodup_cons.2 ⟨fun hm => ?_, List.nodup_append.2 ⟨d2, by simp, fun x hx y hy e => ?_⟩⟩
    · rcases List.mem_append.1 hm with hm | hm
      · exact d1 hm
      · rw [List.mem_singleton] at hm; omega
    · rw [List.mem_singleton] at hy; subst hy; subst e; exact hnb hx
  · rw [List.length_append, List.length_singleton] at hq
    by_cases e : q < C.length
    · obtain ⟨c2, e1, e2⟩ := h5 q e
      have hne : bs.getD q 0 ≠ g := fun e => by
        refine (List.nodup_cons.1 h4).1 ?_
        rw [← e, show bs.getD q 0 = bs[q] by simp [show q < bs.length by omega]]
        exact List.getElem_mem _
      refine ⟨c2, ?_, ?_⟩
      · rw [List.getElem?_set_ne (by omega), e1, List.getElem_append_left e]
        simp [List.getElem?_append_left (show q < bs.length by omega)]
      · rw [List.getElem_append_left e, show (bs ++ [b]).getD q 0 = bs.getD q 0 by simp [List.getElem?_append_left (show q < bs.length by omega)]]
        exact World.ownsRow.kept (e2.bel hb) hg (.inr (fun e3 => by first | exact hne (Option.some.inj e3) | exact hne (Option.some.inj e3).symm))
    · obtain rfl : q = C.length := by omega
      have eb : (bs ++ [b]).getD C.length 0 = b := by simp [← h2]
      refine ⟨c, ?_, ?_⟩
      · rw [List.getElem?_set_self (by omega), eb]; simp
      · rw [eb]
        simp only [List.getElem_append_right (Nat.le_refl _), Nat.sub_self, List.getElem_cons_zero]
        exact World.ownsRow.kept (hL.mono hB) hg (.inr (fun e3 => by have e4 := Option.some.inj e3; simp only at e4; omega))

theorem infoSl : (Tryd.prog.info? 23).map (fun i => (i.zero, i.size, i.bytes)) = some (some (.slice none 0 0), 1, 24) := by kernel_rfl
set_option maxHeartbeats 1600000 in
theorem choices_any (W : Nat) (hW : W ≤ 6) (a : Option Addr) (n cap : Nat) (rows : List Int) (w : World) (h : Row w a n rows) (hn : n ≤ 6) :
    Calls Tryd.prog 14 #[.slice a n cap, .int .i64 W] w fun e w' => (∃ g, e = .returned (.slice (some ⟨g, 0, none⟩) n n) ∧ ChAt w.heap.size w' g n (choC W rows)) ∧ Below w.heap.size w w' := by
  have hl := h.1
  have hR := Lib.hid h
  clear h
  obtain ⟨i0, hi, hz0, hz1, hz2⟩ := info_parts infoSl
  go_enter Tryd.func14, Tryd.ntmps14
  go_wp2_with ((refine wpList_make_full w rfl _ _ 34 rfl w.heap.size 23 i0 (.slice none 0 0) 1 Tryd.underlying34 hi hz0 hz1 .i64 .i64 n n n rfl rfl rfl rfl ?_ ?_ (Nat.le_refl _) ?_))
  all_goals first | (rw [hz2]; omega) | (unfold maxLen; omega) | skip
  intro w1 ho hg
  have hb1 : Below w.heap.size w w1 := (Below.refl _ _).grown hg (Nat.le_refl _) (fun k hk => by cases hk)
  have hA0 : Hid (ChAt w.heap.size w1 w.heap.size n (choC W (rows.take 0))) := ⟨_, [], ho, rfl, Nat.zero_le _, by simp, fun q hq => by simp [choC] at hq⟩
  replace hb1 := Lib.hid hb1
  clear ho hg hi hz0 hz1 hz2
  go_wp2_with fail
  go_loopw [13] (fun i wr => ∃ k : Nat, k ≤ n ∧ i = .int .i64 k ∧ Hid (ChAt w.heap.size wr w.heap.size n (choC W (rows.take k))) ∧ Hid (Below w.heap.size w wr)) (fun i _ => n - (intOf i).toNat)
  case atStart => exact ⟨0, Nat.zero_le _, rfl, hA0, hb1⟩
  case round =>
    clear hA0 hb1
    obtain ⟨k, hk, rfl, hA, hB⟩ := hrel
    obtain ⟨wo, rfl⟩ : ∃ wo : World, wo = wr := ⟨_, rfl⟩
    have hBs := hB.out.size
    by_cases hlt : k < n
    · obtain ⟨ab, ao, rfl, hc⟩ := row_at (hR.out.bel hB.out) hlt
      have hstep : choC W (rows.take (k + 1)) = choC W (rows.take k) ++ [withL W (rows.getD k 0) (pn W)] := by
        unfold choC; rw [List.take_add_one, List.map_append]
        simp [List.getElem?_eq_getElem (show k < rows.length by omega), List.getD_eq_getElem?_getD]
      have hcl : (choC W (rows.take k)).length = k := by rw [cho_len, List.length_take]; omega
      obtain ⟨r, hr⟩ : ∃ r, rows.getD k 0 = r := ⟨_, rfl⟩
      rw [hr] at hc hstep
      replace hr := Lib.hid hr
      replace hstep := Lib.hid hstep
      replace hcl := Lib.hid hcl
      go_wp2_with fail
      refine (rowsWith_any W hW r wo).mono ?_
      rintro e w2 ⟨⟨g2, c2, rfl, ho⟩, hb⟩
      have hA2 := hA.out.push (by rw [hcl.out]; exact hlt) hb ho hBs
      rw [hcl.out, ← hstep.out] at hA2
      have hx := hA.out.bel hb
      obtain ⟨vals, bs, hv1, _⟩ := hx
      have hvl := hv1.1
      have hcell := World.ownsRow.cellAt hv1 k (by omega)
      have hfz := World.ownsRow.frozenAt hv1
      obtain ⟨v, hv⟩ : ∃ v, vals[k]? = some v := ⟨_, List.getElem?_eq_getElem (by omega)⟩
      rw [hv] at hcell
      have hB2 := (hB.out.trans (hb.mono hBs)).setCell (show w.heap.size ≤ (⟨w.heap.size, k, none⟩ : Addr).block from Nat.le_refl _) (.slice (some ⟨g2, 0, none⟩) (withL W r (pn W)).length c2)
      replace hA2 := Lib.hid hA2
      replace hB2 := Lib.hid hB2
      clear hv1 hvl hv hA hB ho hb
      obtain ⟨N, hN⟩ : ∃ N, (withL W r (pn W)).length = N := ⟨_, rfl⟩
      rw [hN] at hA2 hB2 ⊢
      replace hN := Lib.hid hN
      go_wp2_with fail
      exact ⟨⟨k + 1, by omega, by go_num, hA2, hB2⟩, by simp [intOf]; omega⟩
    · obtain rfl : k = n := by omega
      rw [List.take_of_length_le (by omega)] at hA
      go_wp2_with fail
      go_ret
      exact ⟨⟨_, rfl, hA.out⟩, hB.out⟩
end Go.Proofs.YtnfkafaolelkbaaDoor

