/-
  slices.DeleteFunc as CellCount uses it, and the contract of the program's CellCount.
  The model's CellCount.
  CellCount of both sides in the laws' forms.
-/
import Derived.Test.YtnfkafaolelkbaaGreatDoorJl
import Derived.Test.YtnfkafaolelkbaaGreatDoorJa
import Derived.Lib.SliceRun
import Derived.Test.YtnfkafaolelkbaaGreatDoorJv
import Derived.Test.YtnfkafaolelkbaaGreatDoorPa

namespace Go.Proofs.YtnfkafaolelkbaaGreatDoor
set_option maxRecDepth 100000
open Go.RowKit

theorem OwnI.cutTo {w : World} {B g N c i : Nat} {L : List Int} (h : OwnI w B (some ⟨g, 0, none⟩) N c L) (hi : i ≤ N) : OwnI w B (some ⟨g, 0, none⟩) i c (L.take i) := by
  obtain ⟨h1, h2⟩ := h
  refine ⟨by have := h1; simp at this ⊢; omega, ?_⟩
  rcases h2 with ⟨e, _⟩ | ⟨q, cp, cur, e, hB, hh, hn, hm, hs, ht⟩
  · cases e
  · cases e
    refine .inr ⟨g, c, cur, rfl, hB, hh, by omega, hm, hs, ?_⟩
    rw [List.map_take, ← ht, List.take_take]
    congr 1
    omega
theorem own_zeros {B g N c : Nat} : ∀ (n o : Nat) (w : World) (L : List Int), OwnI w B (some ⟨g, 0, none⟩) N c L →
    ∃ L' : List Int, L'.take o = L.take o ∧ OwnI (w.setCells g o (List.replicate n (.int .i64 0))) B (some ⟨g, 0, none⟩) N c L' ∧ w.grownBy (w.setCells g o (List.replicate n (.int .i64 0))) (some g)
  | 0, o, w, L, h => ⟨L, rfl, h, World.grownBy.refl _ _⟩
  | n + 1, o, w, L, h => by
    obtain ⟨L', h1, h2, h3⟩ := own_zeros n (o + 1) _ _ (h.set o 0)
    refine ⟨L', ?_, h2, grown_trans (grown_set (World.grownBy.refl _ _)) h3⟩
    have := congrArg (fun l : List Int => l.take o) h1
    simp only [List.take_take] at this
    rw [show min o (o + 1) = o by omega] at this
    rw [this, List.take_set_of_le (Nat.le_refl _)]
theorem bit_two (x : Int) (j : Nat) : bitI x j = 0 ∨ bitI x j = 1 := by have := bit_01 x j; omega
theorem bitL_snoc (j : Nat) (L : List Int) (x : Int) : bitL j (L ++ [x]) = bitL j L ++ if bitI x j = 1 then [x] else [] := by
  unfold bitL
  rw [List.filter_append]
  congr 1
  by_cases h : bitI x j = 1
  · rw [if_pos h]; simp [h]
  · rw [if_neg h]; simp [h]
theorem bitL_take {j q : Nat} {L : List Int} (hq : q < L.length) : bitL j (L.take (q + 1)) = bitL j (L.take q) ++ if bitI (L.getD q 0) j = 1 then [L.getD q 0] else [] := by
  have e : L.take (q + 1) = L.take q ++ [L.getD q 0] := by
    rw [List.take_add_one]; simp [List.getElem?_eq_getElem hq, List.getD_eq_getElem?_getD]
  rw [e, bitL_snoc]
theorem bitL_le (j : Nat) (L : List Int) : (bitL j L).length ≤ L.length := List.length_filter_le ..

theorem pred_any (k j : Nat) (x : Int) (w : World) (hk : w.cell? ⟨k, 0, none⟩ = some (.int .i64 j)) (h0 : 0 ≤ x) (h1 : x ≤ 63) (h6 : j ≤ 6) :
    Calls Tryz.prog 30 #[.int .i64 x, .pointer (some ⟨k, 0, none⟩)] w fun e w' => e = .returned (.bool (bitI x j == 0)) ∧ w = w' := by
  have E := shr_bit (j := j) h0 h1
  go_enter Tryz.func30, Tryz.ntmps30
  go_wp2_with fail
  go_ret
  exact ⟨by rw [← E]; rfl, rfl⟩

set_option maxHeartbeats 1600000 in
theorem index_pred (k j : Nat) (a : Option Addr) (N c : Nat) (L : List Int) (w : World) (hk : w.cell? ⟨k, 0, none⟩ = some (.int .i64 j)) (h : Row w a N L) (hL : ∀ x, x ∈ L → 0 ≤ x ∧ x ≤ 63) (hN : N ≤ 64) (h6 : j ≤ 6) :
    Calls Tryz.prog 56 #[.slice a N c, .func (.func 30) #[] #[.pointer (some ⟨k, 0, none⟩)]] w fun e w' =>
      ((e = .returned (.int .i64 (-1)) ∧ bitL j L = L) ∨ ∃ i : Nat, e = .returned (.int .i64 i) ∧ i < N ∧ bitI (L.getD i 0) j = 0 ∧ bitL j (L.take i) = L.take i) ∧ w = w' := by
  have hl := h.1
  have hR := Lib.hid h
  have hx := Lib.hid (fun q (hq : q < N) => show 0 ≤ L.getD q 0 ∧ L.getD q 0 ≤ 63 from by rw [getD_elem (by omega)]; exact hL _ (List.getElem_mem _))
  clear h hL
  go_enter Tryz.func56, Tryz.ntmps56
  go_wp2_with fail
  go_loopw [8] (fun i wr => ∃ q : Nat, q ≤ N ∧ i = .int .i64 q ∧ Hid (bitL j (L.take q) = L.take q) ∧ Hid (w = wr)) (fun i _ => N - (intOf i).toNat)
  case atStart => exact ⟨0, Nat.zero_le _, rfl, rfl, rfl⟩
  case round =>
    obtain ⟨q, hq, rfl, hb, hw⟩ := hrel
    obtain rfl := hw.out
    clear hw
    by_cases hlt : q < N
    · obtain ⟨ab, ao, rfl, hc⟩ := row_at hR.out hlt
      have hxq := hx.out q hlt
      have htk := Lib.hid (bitL_take (j := j) (L := L) (show q < L.length by omega))
      have htl := Lib.hid (show L.take (q + 1) = L.take q ++ [L.getD q 0] from by rw [List.take_add_one]; simp [List.getElem?_eq_getElem (show q < L.length by omega), List.getD_eq_getElem?_getD])
      obtain ⟨x, hxe⟩ : ∃ x, L.getD q 0 = x := ⟨_, rfl⟩
      rw [hxe] at hc hxq htk htl
      have hp := pred_any k j x w hk hxq.1 hxq.2 h6
      rcases bit_two x j with e | e
      · rw [e] at hp
        replace hxe := Lib.hid hxe
        replace e := Lib.hid e
        go_wp2_with fail
        refine hp.mono ?_
        rintro e1 w1 ⟨rfl, rfl⟩
        go_wp2_with fail
        go_ret
        exact ⟨.inr ⟨q, rfl, hlt, by rw [hxe.out]; exact e.out, hb.out⟩, rfl⟩
      · rw [e] at hp
        have hn : Hid (bitL j (L.take (q + 1)) = L.take (q + 1)) := Lib.hid (by rw [htk.out, if_pos e, hb.out, htl.out])
        replace hxe := Lib.hid hxe
        replace e := Lib.hid e
        go_wp2_with fail
        refine hp.mono ?_
        rintro e1 w1 ⟨rfl, rfl⟩
        go_wp2_with fail
        exact ⟨⟨q + 1, by omega, by go_num, hn, by first | exact Lib.hid rfl | exact Lib.hid trivial⟩, by simp [intOf]; omega⟩
    · obtain rfl : q = N := by omega
      rw [List.take_of_length_le (by omega)] at hb
      go_wp2_with fail
      go_ret
      exact ⟨.inl ⟨rfl, hb.out⟩, rfl⟩
/-- 'clear(s)' of the call's own numbers, from a place on. -/
theorem wpList_clear_own {w : World} {ops : Array Oper} {rest : List Oper} {o : Oper} {a : Act} {Q : Exit → Act → World → Prop} (hgd : o.guard = none) (s : Operand) (ho : o.op = .call { callee := .builtin .clear, args := #[s], argTypes := #[23] })
    (B g off n cp N c : Nat) (L : List Int) (hs : a.eval s = .slice (some ⟨g, off, none⟩) n cp) (h : OwnI w B (some ⟨g, 0, none⟩) N c L) (hn : 0 < n) (hN : off + n ≤ N)
    (hK : ∀ w' L', L'.take off = L.take off → OwnI w' B (some ⟨g, 0, none⟩) N c L' → w.grownBy w' (some g) → wpList Tryz.prog ops Q rest (a.put o.dst (.tuple #[])) w') : wpList Tryz.prog ops Q (o :: rest) a w := by
  refine wpList_plain hgd fun K' hK' => ?_
  obtain ⟨L', h1, h2, h3⟩ := own_zeros n off w L h
  have hl := h.len
  have hrun := Lib.run_clear_slice (P := Tryz.prog) w 23 3 o.type (.int .i64 0) Tryz.underlying23 (fun w => by kernel_rfl) rfl rfl g off n cp hn
    (fun j hj => by rw [own_cell h (i := off + j) (by omega)]; rfl) (fun j _ => h.frozen _)
  unfold Oper.wp
  simp [execOp, ho, resolve, invoke, builtin, hs, hrun, Result.andThen]
  exact hK' _ _ (hK _ L' h1 h2 h3)
set_option maxHeartbeats 3200000 in
theorem delete_pred (k j B g N c : Nat) (L : List Int) (w : World) (hk : w.cell? ⟨k, 0, none⟩ = some (.int .i64 j)) (h : OwnI w B (some ⟨g, 0, none⟩) N c L) (hkg : k ≠ g) (hL : ∀ x, x ∈ L → 0 ≤ x ∧ x ≤ 63) (hN : N ≤ 64) (h6 : j ≤ 6) :
    Calls Tryz.prog 29 #[.slice (some ⟨g, 0, none⟩) N c, .func (.func 30) #[] #[.pointer (some ⟨k, 0, none⟩)]] w fun e w' =>
      e = .returned (.slice (some ⟨g, 0, none⟩) (bitL j L).length c) ∧ OwnI w' B (some ⟨g, 0, none⟩) (bitL j L).length c (bitL j L) ∧ w.grownBy w' (some g) := by
  have hl := h.len
  have hix := index_pred k j (some ⟨g, 0, none⟩) N c L w hk h.row hL hN h6
  have hx := Lib.hid (fun q (hq : q < N) => show 0 ≤ L.getD q 0 ∧ L.getD q 0 ≤ 63 from by rw [getD_elem (by omega)]; exact hL _ (List.getElem_mem _))
  have hO := Lib.hid h
  have hcap := own_cap h
  have hcap2 : c ≤ 9223372036854775807 := by
    rcases h.2 with ⟨e, _⟩ | ⟨q, cp, cur, e, _, _, _, hm, _⟩
    · cases e
    · cases e; unfold maxLen at hm; omega
  obtain ⟨R, hRR⟩ : ∃ R, bitL j L = R := ⟨_, rfl⟩
  rw [hRR]
  clear h hL
  go_enter Tryz.func29, Tryz.ntmps29
  go_wp2_with fail
  refine hix.mono ?_
  rintro e w1 ⟨hres, rfl⟩
  clear hix
  rcases hres with ⟨rfl, hall⟩ | ⟨i, rfl, hi, hbit, hpre⟩
  · obtain rfl : R = L := hRR.symm.trans hall
    replace hall := Lib.hid hall
    replace hRR := Lib.hid hRR
    go_wp2_with fail
    go_ret
    exact ⟨by rw [hl]; rfl, by rw [hl]; exact hO.out, World.grownBy.refl _ _⟩
  have hst : Hid (L.take i = bitL j (L.take (i + 1))) := Lib.hid (by rw [bitL_take (by omega), hbit, hpre]; simp)
  have hne : ((i : Int) == -1) = false := by rw [beq_eq_false_iff_ne]; omega
  have hg0 : Hid (w.grownBy w (some g)) := World.grownBy.refl _ _
  replace hbit := Lib.hid hbit
  replace hpre := Lib.hid hpre
  replace hRR := Lib.hid hRR
  go_wp2_with fail
  go_loopw [5, 6] (fun o v wr => ∃ (p q : Nat) (M : List Int), p < q ∧ q ≤ N ∧ v = .int .i64 q ∧ o = .int .i64 p ∧ Hid (OwnI wr B (some ⟨g, 0, none⟩) N c M) ∧ Hid (M.take p = bitL j (L.take q)) ∧ Hid (∀ r, q ≤ r → r < N → M.getD r 0 = L.getD r 0) ∧ Hid (w.grownBy wr (some g))) (fun _ v _ => N - (intOf v).toNat)
  case atStart => exact ⟨i, i + 1, L, by omega, by omega, by go_num, rfl, hO, hst, Lib.hid (fun _ _ _ => rfl), hg0⟩
  case round =>
    clear hO hst hg0 hbit hpre hne
    obtain ⟨p, q, M, hpq, hq, rfl, rfl, hO, hT, hD, hg⟩ := hrel
    obtain ⟨wo, rfl⟩ : ∃ wo : World, wo = wr := ⟨_, rfl⟩
    have hml := hO.out.len
    by_cases hlt : q < N
    · have hc := own_cell hO.out hlt
      rw [hD.out q (Nat.le_refl _) hlt] at hc
      have hxq := hx.out q hlt
      have htk := Lib.hid (bitL_take (j := j) (L := L) (show q < L.length by omega))
      obtain ⟨x, hxe⟩ : ∃ x, L.getD q 0 = x := ⟨_, rfl⟩
      rw [hxe] at hc hxq htk
      have hk2 := hg.out.cell hk (by intro e; exact hkg (Option.some.inj e))
      have hp := pred_any k j x wo hk2 hxq.1 hxq.2 h6
      have hcp := own_cell hO.out (show p < N by omega)
      have hfz := hO.out.frozen
      obtain ⟨y, hy⟩ : ∃ y, M.getD p 0 = y := ⟨_, rfl⟩
      rw [hy] at hcp
      replace hy := Lib.hid hy
      have hD1 : Hid (∀ r, q + 1 ≤ r → r < N → M.getD r 0 = L.getD r 0) := fun r h1 h2 => hD.out r (by omega) h2
      rcases bit_two x j with e | e
      · rw [e] at hp
        have hT1 : Hid (M.take p = bitL j (L.take (q + 1))) := Lib.hid (by rw [htk.out, if_neg (by omega), List.append_nil]; exact hT.out)
        replace e := Lib.hid e
        replace hxe := Lib.hid hxe
        go_wp2_with fail
        refine hp.mono ?_
        rintro e1 w1 ⟨rfl, rfl⟩
        go_wp2_with fail
        exact ⟨⟨p, q + 1, M, by omega, by omega, by go_num, rfl, hO, hT1, hD1, hg⟩, by simp [intOf]; omega⟩
      · rw [e] at hp
        have hO2 := Lib.hid (hO.out.set p x)
        have hT1 : Hid ((M.set p x).take (p + 1) = bitL j (L.take (q + 1))) := Lib.hid (by
          rw [htk.out, if_pos e, ← hT.out, List.take_add_one, List.take_set_of_le (Nat.le_refl _)]
          simp [show p < M.length by omega])
        have hD2 : Hid (∀ r, q + 1 ≤ r → r < N → (M.set p x).getD r 0 = L.getD r 0) := fun r h1 h2 => by
          rw [← hD1.out r h1 h2]
          simp [List.getD_eq_getElem?_getD, List.getElem?_set_ne (show p ≠ r by omega)]
        have hg2 : Hid (w.grownBy (wo.setCell ⟨g, p, none⟩ (.int .i64 x)) (some g)) := grown_trans hg.out (grown_set (World.grownBy.refl _ _))
        replace e := Lib.hid e
        replace hxe := Lib.hid hxe
        clear hO hT hD hD1 hg
        go_wp2_with fail
        refine hp.mono ?_
        rintro e1 w1 ⟨rfl, rfl⟩
        go_wp2_with fail
        exact ⟨⟨p + 1, q + 1, M.set p x, by omega, by omega, by go_num, by go_num, hO2, hT1, hD2, hg2⟩, by simp [intOf]; omega⟩
    · obtain rfl : q = N := by omega
      have hLt : L.take q = L := List.take_of_length_le (by omega)
      rw [hLt, hRR.out] at hT
      have hpR : R.length = p := by rw [← hT.out, List.length_take]; omega
      have hpc : p ≤ c := by omega
      replace hpR := Lib.hid hpR
      go_wp2_with (refine wpList_clear_own rfl _ rfl B g p (q - p) (c - p) q c M rfl hO.out (by omega) (by omega) ?_)
      intro w2 M2 hM2 hO2 hg2
      have hO3 := hO2.cutTo (show p ≤ q by omega)
      rw [hM2, hT.out] at hO3
      replace hO3 := Lib.hid hO3
      have hg3 := Lib.hid (grown_trans hg.out hg2)
      clear hM2 hO2 hg2 hg hO hT hD
      go_wp2_with fail
      go_ret
      exact ⟨by rw [hpR.out]; rfl, by rw [hpR.out]; exact hO3.out, hg3.out⟩
/-- One of the lists is made another one, in its own block. -/
theorem ChAt.at_ {B g n : Nat} {wr : World} {C : List (List Int)} (h : ChAt B wr g n C) {q : Nat} (hq : q < C.length) :
    ∃ b c, wr.cell? ⟨g, q, none⟩ = some (.slice (some ⟨b, 0, none⟩) C[q].length c) ∧ OwnI wr B (some ⟨b, 0, none⟩) C[q].length c C[q] ∧ b ≠ g ∧
      ∀ (w1 : World) (L' : List Int), wr.grownBy w1 (some b) → OwnI w1 B (some ⟨b, 0, none⟩) L'.length c L' → w1.cell? ⟨g, q, none⟩ = some (.slice (some ⟨b, 0, none⟩) C[q].length c) ∧ (∀ o, w1.frozen? ⟨g, o, none⟩ = false) ∧
        ChAt B (w1.setCell ⟨g, q, none⟩ (.slice (some ⟨b, 0, none⟩) L'.length c)) g n (C.set q L') := by
  obtain ⟨vals, bs, h1, h2, h3, h4, h5⟩ := h
  obtain ⟨c, e1, e2⟩ := h5 q hq
  have hv : vals.length = n := by have := h1.1; omega
  have nd := List.nodup_cons.1 h4
  have hne : ∀ p, p < C.length → bs.getD p 0 ≠ g := fun p hp e => by
    refine nd.1 ?_
    rw [← e, show bs.getD p 0 = bs[p] by simp [show p < bs.length by omega]]
    exact List.getElem_mem _
  have hap : ∀ p, p < C.length → p ≠ q → bs.getD p 0 ≠ bs.getD q 0 := fun p hp hpq e => by
    rw [show bs.getD p 0 = bs[p] by simp [show p < bs.length by omega], show bs.getD q 0 = bs[q] by simp [show q < bs.length by omega]] at e
    rcases Nat.lt_or_gt_of_ne hpq with hh | hh
    · exact List.pairwise_iff_getElem.1 nd.2 p q (by omega) (by omega) hh e
    · exact List.pairwise_iff_getElem.1 nd.2 q p (by omega) (by omega) hh e.symm
  refine ⟨bs.getD q 0, c, by rw [World.ownsRow.cellAt h1 _ (by omega), e1], e2, hne q hq, fun w1 L' hg hL => ?_⟩
  have h1' := World.ownsRow.kept h1 hg (.inr (fun e => hne q hq (Option.some.inj e).symm))
  have hg2 : w1.grownBy (w1.setCell ⟨g, q, none⟩ (.slice (some ⟨bs.getD q 0, 0, none⟩) L'.length c)) (some g) := grown_set (World.grownBy.refl _ _)
  refine ⟨by rw [World.ownsRow.cellAt h1' _ (by omega), e1], World.ownsRow.frozenAt h1', vals.set q (.slice (some ⟨bs.getD q 0, 0, none⟩) L'.length c), bs, (World.ownsRow.stored h1' q _).1, by simpa using h2, by simpa using h3, h4, fun p hp => ?_⟩
  rw [List.length_set] at hp
  by_cases e : p = q
  · subst e
    refine ⟨c, by rw [List.getElem?_set_self (by omega)]; simp, ?_⟩
    simp only [List.getElem_set_self]
    exact World.ownsRow.kept hL hg2 (.inr (fun e3 => hne p hq (Option.some.inj e3)))
  · obtain ⟨c2, d1, d2⟩ := h5 p hp
    refine ⟨c2, by rw [List.getElem?_set_ne (fun e2 => e e2.symm), d1, List.getElem_set_ne (fun e2 => e e2.symm)], ?_⟩
    rw [List.getElem_set_ne (fun e2 => e e2.symm)]
    exact World.ownsRow.kept (World.ownsRow.kept d2 hg (.inr (fun e3 => hap p hp e (Option.some.inj e3)))) hg2 (.inr (fun e3 => hne p hp (Option.some.inj e3)))

/-- What CellCount answers. -/
def ccO (rows cols : List Int) (i j : Int) : Int := if ctdB rows cols = true ∧ (0 ≤ i ∧ i < rows.length) ∧ (0 ≤ j ∧ j < cols.length) then cntC rows cols i.toNat j.toNat else -1
set_option maxHeartbeats 3200000 in
theorem cc_impl (a : Option Addr) (n cap : Nat) (a' : Option Addr) (m cap' : Nat) (xs ys : List Int) (i j : Int) (w : World) (h : Row w a n xs) (h' : Row w a' m ys) (hn : n ≤ 1048576) (hm : m ≤ 1048576) :
    Calls Tryz.prog 12 #[.slice a n cap, .slice a' m cap', .int .i64 i, .int .i64 j] w fun e w' => e = .returned (.int .i64 (ccO xs ys i j)) ∧ Below w.heap.size w w' := by
  have l1 := h.1
  have l2 := h'.1
  obtain ⟨W0, hW0⟩ : ∃ W0, W0 = w.alloc (.cells #[.int .i64 j] 3) := ⟨_, rfl⟩
  have bb : Hid (Below w.heap.size w W0) := by subst hW0; exact (Below.refl _ _).alloc (Nat.le_refl _) _
  have k0 : W0.cell? ⟨w.heap.size, 0, none⟩ = some (.int .i64 j) := by subst hW0; go_simp
  have hR := Lib.hid (h.bel bb.out)
  have hR' := Lib.hid (h'.bel bb.out)
  have hc := counted_any a n cap a' m cap' xs ys W0 hR.out hR'.out hn hm
  unfold ccO
  rw [l1, l2]
  clear h h'
  by_cases hs : ctdB xs ys = true ∧ (0 ≤ i ∧ i < n) ∧ (0 ≤ j ∧ j < m)
  case neg =>
    rw [if_neg hs]
    have hcase : ctdB xs ys = false ∨ (ctdB xs ys = true ∧ (i < 0 ∨ (0 ≤ i ∧ ((n : Int) ≤ i ∨ (i < n ∧ (j < 0 ∨ (0 ≤ j ∧ (m : Int) ≤ j))))))) := by
      by_cases e : ctdB xs ys = true
      · right
        refine ⟨e, ?_⟩
        have : ¬ ((0 ≤ i ∧ i < n) ∧ (0 ≤ j ∧ j < m)) := fun h => hs ⟨e, h⟩
        omega
      · left; simpa using e
    clear hs
    rcases hcase with e | ⟨e, e1 | ⟨e0, e1 | ⟨e2, e3 | ⟨e3, e4⟩⟩⟩⟩
    all_goals
      rw [e] at hc
      go_enter Tryz.func12, Tryz.ntmps12
      go_upto_region 1 with fail
      rw [← hW0]
      clear hW0
      go_wp2_with fail
      refine hc.mono ?_
      rintro e w2 ⟨rfl, hb⟩
      replace k0 := kept hb (block_lt k0) k0
      replace bb := Lib.hid (bb.out.trans (hb.mono bb.out.size))
      clear hb
      go_wp2_with fail
      go_ret
      exact ⟨rfl, bb.out⟩
  obtain ⟨hs, ⟨hi0, hi1⟩, hj0, hj1⟩ := hs
  rw [if_pos ⟨hs, ⟨hi0, hi1⟩, hj0, hj1⟩]
  obtain ⟨i, rfl⟩ := Int.eq_ofNat_of_zero_le hi0
  obtain ⟨j, rfl⟩ := Int.eq_ofNat_of_zero_le hj0
  have hi : i < n := by omega
  have hj : j < m := by omega
  rw [Int.toNat_natCast, Int.toNat_natCast]
  rw [hs] at hc
  have hs2 := (ctdB_parts hs).1
  have hp := sumsB_parts hs2
  have hq := Lib.hid (cell_ckr hs2 (i := i) (j := j) (by omega))
  rw [l1, l2] at hp
  rw [l2] at hq
  have hbd := Lib.hid hp.2.2.2
  have hn6 := hp.1.2
  have hm1 := hp.2.1.1
  have hm6 := hp.2.1.2
  clear hp hs2 hs hi0 hj0
  go_enter Tryz.func12, Tryz.ntmps12
  go_upto_region 1 with fail
  rw [← hW0]
  clear hW0
  go_wp2_with fail
  refine hc.mono ?_
  rintro e w2 ⟨rfl, hb⟩
  replace k0 := kept hb (block_lt k0) k0
  replace hR := Lib.hid (hR.out.bel hb)
  replace hR' := Lib.hid (hR'.out.bel hb)
  replace bb := Lib.hid (bb.out.trans (hb.mono bb.out.size))
  clear hb hc
  go_wp2_with fail
  refine (choices_any m hm6 a n cap xs w2 hR.out hn6).mono ?_
  rintro e w3 ⟨⟨g, rfl, hA⟩, hb⟩
  have hkw : w.heap.size < w2.heap.size := block_lt k0
  have hBs := bb.out.size
  replace k0 := kept hb (block_lt k0) k0
  have hb3 := Lib.hid hb
  have hcl : (choC m xs).length = n := by rw [cho_len]; exact l1
  have hce : (choC m xs)[i]? = some (withL m (xs.getD i 0) (pn m)) := cho_get (by omega)
  obtain ⟨L, hL⟩ : ∃ L, withL m (xs.getD i 0) (pn m) = L := ⟨_, rfl⟩
  rw [hL] at hce hq
  have hLe : (choC m xs)[i]'(by omega) = L := by rw [List.getElem?_eq_getElem (by omega)] at hce; exact Option.some.inj hce
  have hLs := cho_small hm6 (rows := xs) L (by rw [← hLe]; exact List.getElem_mem _)
  obtain ⟨b, c, hc1, hO, hbg, hset⟩ := hA.at_ (q := i) (by omega)
  rw [hLe] at hc1 hO hset
  have hfar := hA.far
  have hbr : w2.heap.size ≤ b := (rng_own hO _ rfl).1
  have hbr2 := hbr
  have hbw : w.heap.size ≠ b := by omega
  obtain ⟨len, hlen⟩ : ∃ len, L.length = len := ⟨_, rfl⟩
  rw [hlen] at hc1 hO hset
  have hdel := delete_pred w.heap.size j w2.heap.size b len c L w3 k0 hO hbw hLs.2 (by omega) (by omega)
  replace hL := Lib.hid hL
  replace hLe := Lib.hid hLe
  replace hlen := Lib.hid hlen
  replace hset := Lib.hid hset
  replace hq := Lib.hid hq.out
  clear hA hb hce hO hbr hR
  go_wp2_with fail
  refine hdel.mono ?_
  rintro e w4 ⟨rfl, hO, hg⟩
  obtain ⟨hcg, hfg, hA⟩ := hset.out w4 _ hg hO
  have hb4 := hb3.out.grown hg hb3.out.size (fun j hj => by cases hj; exact hbr2)
  have hb5 := hb4.setCell (show w2.heap.size ≤ (⟨g, i, none⟩ : Addr).block from hfar.1) (.slice (some ⟨b, 0, none⟩) (bitL j L).length c)
  replace hR' := Lib.hid (hR'.out.bel hb5)
  replace bb := Lib.hid (bb.out.trans (hb5.mono hBs))
  have hA2 := Lib.hid (hA.read (by rw [List.length_set]; exact hcl))
  have hC : ∀ M, M ∈ (choC m xs).set i (bitL j L) → M.length ≤ 64 ∧ ∀ x, x ∈ M → 0 ≤ x ∧ x ≤ 63 := fun M hM => by
    rcases List.mem_or_eq_of_mem_set hM with h | rfl
    · exact cho_small hm6 M h
    · exact ⟨Nat.le_trans (bitL_le j L) hLs.1, fun x hx => hLs.2 x (List.mem_filter.1 hx).1⟩
  replace hC := Lib.hid hC
  obtain ⟨l5, hl5⟩ : ∃ l5, (bitL j L).length = l5 := ⟨_, rfl⟩
  rw [hl5] at hA2 bb hR' ⊢
  replace hl5 := Lib.hid hl5
  clear hO hg hA hb4 hb5 hb3 hset hdel k0 hc1
  go_wp2_with fail
  refine (chosen_any _ n n _ a' m cap' ys _ hA2.out hR'.out hn6 hm1 hm6 (fun j hj => ⟨(hbd.out j hj).1, by have := (hbd.out j hj).2; omega⟩) hC.out).mono ?_
  rintro e w6 ⟨rfl, hb6⟩
  rw [hq.out]
  replace bb := Lib.hid (bb.out.trans (hb6.mono bb.out.size))
  clear hb6
  go_wp2_with fail
  go_ret
  exact ⟨rfl, bb.out⟩
end Go.Proofs.YtnfkafaolelkbaaGreatDoor

namespace Go.Proofs.YtnfkafaolelkbaaGreatDoor
set_option maxRecDepth 100000
open Go.RowKit

/-- The cells of a part of a list that can be read. -/
theorem rowpart_news {w : World} {b off n k m : Nat} {xs : List Int} (h : Row w (some ⟨b, off, none⟩) n xs) (hk : k + m ≤ n) :
    ∀ j u, (((xs.drop k).take m).map (Value.int .i64))[j]? = some u → w.cell? ((⟨b, off + k, none⟩ : Addr).add j) = some u := by
  intro j u hj
  have hjm : j < m := by have := (List.getElem?_eq_some_iff.1 hj).1; simp at this; omega
  have hl := h.1
  obtain ⟨b', off', e', hc0⟩ := h.2.resolve_left (by omega)
  cases e'
  have hc := hc0 (k + j) (by omega)
  have e : (((xs.drop k).take m).map (Value.int .i64))[j]? = some (.int .i64 (xs.getD (k + j) 0)) := by
    rw [List.getElem?_map, List.getElem?_take_of_lt hjm, List.getElem?_drop, List.getElem?_eq_getElem (by omega), getD_elem (by omega)]; rfl
  rw [e] at hj
  cases hj
  rw [show off + (k + j) = off + k + j by omega] at hc
  by_cases e0 : j = 0
  · subst e0; simpa [Addr.add] using hc
  · simpa [Addr.add, e0] using hc
theorem rowdrop_news {w : World} {b off n k : Nat} {xs : List Int} (h : Row w (some ⟨b, off, none⟩) n xs) (hk : k ≤ n) :
    ∀ j u, ((xs.drop k).map (Value.int .i64))[j]? = some u → w.cell? ((⟨b, off + k, none⟩ : Addr).add j) = some u := by
  have := rowpart_news (k := k) (m := n - k) h (by omega)
  rwa [List.take_of_length_le (by rw [List.length_drop]; have := h.1; omega)] at this
theorem rowtake_news {w : World} {b off n k : Nat} {xs : List Int} (h : Row w (some ⟨b, off, none⟩) n xs) (hk : k ≤ n) :
    ∀ j u, ((xs.take k).map (Value.int .i64))[j]? = some u → w.cell? ((⟨b, off, none⟩ : Addr).add j) = some u := by
  have := rowpart_news (k := 0) (m := k) h (by omega)
  rwa [List.drop_zero] at this
set_option maxHeartbeats 6400000 in
theorem cc_spec (a : Option Addr) (n cap : Nat) (a' : Option Addr) (m cap' : Nat) (xs ys : List Int) (i j : Int) (w : World) (h : Row w a n xs) (h' : Row w a' m ys) (hn : n ≤ 1048576) (hm : m ≤ 1048576) (hcap : n ≤ cap) :
    Calls Tryz.prog 13 #[.slice a n cap, .slice a' m cap', .int .i64 i, .int .i64 j] w fun e w' => e = .returned (.int .i64 (ccO xs ys i j)) ∧ Below w.heap.size w w' := by
  have l1 := h.1
  have l2 := h'.1
  have hR := Lib.hid h
  have hR' := Lib.hid h'
  have hc := okc_spec a n cap a' m cap' xs ys w h h' hn hm
  unfold ccO
  rw [l1, l2]
  clear h h'
  by_cases hs : ctdB xs ys = true ∧ (0 ≤ i ∧ i < n) ∧ (0 ≤ j ∧ j < m)
  case neg =>
    rw [if_neg hs]
    by_cases e : ctdB xs ys = true
    case neg =>
      have e : ctdB xs ys = false := by simpa using e
      rw [e] at hc
      go_enter Tryz.func13, Tryz.ntmps13
      go_wp2_with fail
      refine hc.mono ?_
      rintro e w2 ⟨rfl, hb⟩
      replace hb := Lib.hid hb
      go_wp2_with fail
      go_ret
      exact ⟨rfl, hb.out⟩
    rw [e] at hc
    have hx := fun wx => in_any i 0 ((n : Int) - 1) wx
    have hy := fun wx => in_any j 0 ((m : Int) - 1) wx
    have i1 : IntKind.i64.wrap ((n : Int) - 1) = (n : Int) - 1 := IntWalk.i64_in _ ⟨by omega, by omega⟩
    have i2 : IntKind.i64.wrap ((m : Int) - 1) = (m : Int) - 1 := IntWalk.i64_in _ ⟨by omega, by omega⟩
    by_cases e1 : 0 ≤ i ∧ i < n
    case neg =>
      have ex : inB i 0 ((n : Int) - 1) = false := inB_no (by omega)
      rw [ex] at hx
      go_enter Tryz.func13, Tryz.ntmps13
      go_wp2_with fail
      refine hc.mono ?_
      rintro e w2 ⟨rfl, hb⟩
      replace hb := Lib.hid hb
      go_wp2_with fail
      refine (hx _).mono ?_
      rintro e w3 ⟨rfl, rfl⟩
      go_wp2_with fail
      go_ret
      exact ⟨rfl, hb.out⟩
    have ex : inB i 0 ((n : Int) - 1) = true := inB_yes (by omega) (by omega)
    have ey : inB j 0 ((m : Int) - 1) = false := inB_no (by have h9 : ¬ (0 ≤ j ∧ j < m) := fun h => hs ⟨e, e1, h⟩; omega)
    rw [ex] at hx
    rw [ey] at hy
    go_enter Tryz.func13, Tryz.ntmps13
    go_wp2_with fail
    refine hc.mono ?_
    rintro e w2 ⟨rfl, hb⟩
    replace hb := Lib.hid hb
    go_wp2_with fail
    refine (hx _).mono ?_
    rintro e w3 ⟨rfl, rfl⟩
    go_wp2_with fail
    refine (hy _).mono ?_
    rintro e w3 ⟨rfl, rfl⟩
    go_wp2_with fail
    go_ret
    exact ⟨rfl, hb.out⟩
  obtain ⟨hs, ⟨hi0, hi1⟩, hj0, hj1⟩ := hs
  rw [if_pos ⟨hs, ⟨hi0, hi1⟩, hj0, hj1⟩]
  obtain ⟨i, rfl⟩ := Int.eq_ofNat_of_zero_le hi0
  obtain ⟨j, rfl⟩ := Int.eq_ofNat_of_zero_le hj0
  have hi : i < n := by omega
  have hj : j < m := by omega
  rw [Int.toNat_natCast, Int.toNat_natCast]
  rw [hs] at hc
  have hs2 := (ctdB_parts hs).1
  have hp := sumsB_parts hs2
  have hq := cell_way (rows := xs) (cols := ys) (i := i) j (by omega)
  rw [l1, l2] at hp
  rw [l2] at hq
  rw [← hq]
  have hbd := hp.2.2.2
  have hn6 := hp.1.2
  have hm1 := hp.2.1.1
  have hm6 := hp.2.1.2
  have hx := fun wx => in_yes (i : Int) 0 ((n : Int) - 1) wx (by omega) (by omega)
  have hy := fun wx => in_yes (j : Int) 0 ((m : Int) - 1) wx (by omega) (by omega)
  have i1 : IntKind.i64.wrap ((n : Int) - 1) = (n : Int) - 1 := IntWalk.i64_in _ ⟨by omega, by omega⟩
  have i2 : IntKind.i64.wrap ((m : Int) - 1) = (m : Int) - 1 := IntWalk.i64_in _ ⟨by omega, by omega⟩
  have i3 : IntKind.i64.wrap ((i : Int) + 1) = (i : Int) + 1 := IntWalk.i64_in _ ⟨by omega, by omega⟩
  obtain ⟨ba, bo, rfl, hri⟩ := row_at hR.out hi
  obtain ⟨r, hr⟩ : ∃ r, xs.getD i 0 = r := ⟨_, rfl⟩
  rw [hr] at hri ⊢
  replace hr := Lib.hid hr
  replace hbd := Lib.hid hbd
  clear hp hs2 hs hi0 hj0 hq
  obtain ⟨i0, hi', hz0, hz1, hz2⟩ := info_parts infoInt
  go_enter Tryz.func13, Tryz.ntmps13
  go_wp2_with fail
  refine hc.mono ?_
  rintro e w2 ⟨rfl, hb⟩
  replace hri := kept hb (block_lt hri) hri
  replace hR := Lib.hid (hR.out.bel hb)
  replace hR' := Lib.hid (hR'.out.bel hb)
  replace hb := Lib.hid hb
  clear hc
  go_wp2_with fail
  refine (hx _).mono ?_
  rintro e w3 ⟨rfl, rfl⟩
  go_wp2_with fail
  refine (hy _).mono ?_
  rintro e w3 ⟨rfl, rfl⟩
  clear hx hy i1 i2
  go_upto_region 3 with fail
  have hRd := Lib.hid ((hR.out.bel ((Below.refl _ _).alloc (Nat.le_refl _) (.cells #[] 3))).bel ((Below.refl _ _).drew))
  go_cut [9] (fun s9 wx => ∃ (aO : Option Addr) (cO : Nat), s9 = .slice aO (n - 1) cO ∧ n - 1 ≤ cO ∧ Hid (Row wx aO (n - 1) (delL i xs)) ∧ Hid (Below w2.heap.size w2 wx))
  case first =>
    have hic : i ≤ cap := by omega
    have hi1' : i + 1 ≤ n := by omega
    have hi2 : 0 ≤ (i : Int) + 1 := by omega
    have hi3 : (i : Int) + 1 ≤ (n : Int) := by omega
    by_cases hcp : cap = i + 1
    · have hcp' : (cap = i + 1) = True := eq_true hcp
      have hin : Hid (n = i + 1) := Lib.hid (by omega)
      clear hcp
      go_wp2_with fail
      go_region_law (first | ((refine step_append_any rfl (.tmp 34) (.tmp 37) 23 rfl w2.heap.size 3 i0 (.int .i64 0) 1 8 Tryz.underlying23 hi' hz0 hz1 hz2 rfl (by decide) _ 0 [] rfl (own_drew_lit w2) ⟨ba, bo, none⟩ i cap ((xs.take i).map (Value.int .i64)) rfl (by simp only [List.length_map, List.length_take]; omega) (rowtake_news hRd.out (by omega)) (ints_oneCell _ _) (by unfold maxLen; omega) (by omega) (by simp) ?_); intro v1 w9 ho1 hg1; obtain ⟨ax, cx, rfl, ho1x, hb1⟩ := app_first ho1 hg1; clear ho1 hg1; replace ho1x := Lib.hid ho1x; replace hb1 := Lib.hid hb1; have hR9 := Lib.hid (hR.out.bel hb1.out)) | ((refine step_append_any rfl (.tmp 38) (.tmp 42) 23 rfl w2.heap.size 3 i0 (.int .i64 0) 1 8 Tryz.underlying23 hi' hz0 hz1 hz2 rfl (by decide) _ i ((xs.take i).map (Value.int .i64)) rfl ho1x.out ⟨ba, bo, none⟩ (n - (i + 1)) (cap - (i + 1)) ((xs.drop (i + 1)).map (Value.int .i64)) rfl (by simp only [List.length_map, List.length_drop]; omega) (no_news (i + 1) (by have := hin.out; omega)) (ints_oneCell _ _) (by unfold maxLen; omega) (by omega) hb1.out.size ?_); intro v2 w10 ho2 hg2; obtain ⟨ay, cy, rfl, ho2x, hb2⟩ := app_second ho1x.out hb1.out (show i + (n - (i + 1)) = n - 1 by omega) ho2 hg2; clear ho2 hg2 ho1x hb1; replace ho2x := Lib.hid ho2x; replace hb2 := Lib.hid hb2))
      all_goals
        go_wp2_with fail
        go_meet
        exact ⟨ay, cy, rfl, own_cap ho2x.out, ho2x.out.row, hb2⟩
    · go_wp2_with fail
      go_region_law (first | ((refine step_append_any rfl (.tmp 34) (.tmp 37) 23 rfl w2.heap.size 3 i0 (.int .i64 0) 1 8 Tryz.underlying23 hi' hz0 hz1 hz2 rfl (by decide) _ 0 [] rfl (own_drew_lit w2) ⟨ba, bo, none⟩ i cap ((xs.take i).map (Value.int .i64)) rfl (by simp only [List.length_map, List.length_take]; omega) (rowtake_news hRd.out (by omega)) (ints_oneCell _ _) (by unfold maxLen; omega) (by omega) (by simp) ?_); intro v1 w9 ho1 hg1; obtain ⟨ax, cx, rfl, ho1x, hb1⟩ := app_first ho1 hg1; clear ho1 hg1; replace ho1x := Lib.hid ho1x; replace hb1 := Lib.hid hb1; have hR9 := Lib.hid (hR.out.bel hb1.out)) | ((refine step_append_any rfl (.tmp 38) (.tmp 42) 23 rfl w2.heap.size 3 i0 (.int .i64 0) 1 8 Tryz.underlying23 hi' hz0 hz1 hz2 rfl (by decide) _ i ((xs.take i).map (Value.int .i64)) rfl ho1x.out ⟨ba, bo + (i + 1), none⟩ (n - (i + 1)) (cap - (i + 1)) ((xs.drop (i + 1)).map (Value.int .i64)) rfl (by simp only [List.length_map, List.length_drop]; omega) (rowdrop_news hR9.out (by omega)) (ints_oneCell _ _) (by unfold maxLen; omega) (by omega) hb1.out.size ?_); intro v2 w10 ho2 hg2; obtain ⟨ay, cy, rfl, ho2x, hb2⟩ := app_second ho1x.out hb1.out (show i + (n - (i + 1)) = n - 1 by omega) ho2 hg2; clear ho2 hg2 ho1x hb1; replace ho2x := Lib.hid ho2x; replace hb2 := Lib.hid hb2))
      all_goals
        go_wp2_with fail
        go_meet
        exact ⟨ay, cy, rfl, own_cap ho2x.out, ho2x.out.row, hb2⟩
  case rest =>
    clear hRd
    obtain ⟨aO, cO, rfl, hcO, hO, hB⟩ := hcut
    have hws := hb.out.size
    have hRx := Lib.hid (hR.out.bel hB.out)
    replace hR' := Lib.hid (hR'.out.bel hB.out)
    replace hb := Lib.hid (hb.out.trans (hB.out.mono hws))
    clear hB hws hri hR
    obtain ⟨O, hOe⟩ : ∃ O, delL i xs = O := ⟨_, rfl⟩
    rw [hOe] at hO
    have hol : O.length = n - 1 := hO.out.1
    obtain ⟨P, hP⟩ : ∃ P, pn m = P := ⟨_, rfl⟩
    have hPi := pn_int m
    rw [hP] at hPi
    have hP64 : P ≤ 64 := by rw [← hP]; exact pn_64 hm6
    have hlow := Lib.hid (fun (x : Nat) (hx : x < P) => cnt_low m (by omega) x (by omega))
    have cp := Lib.hid (fun wx => power_any m wx (by omega))
    rw [← hPi] at cp
    have hbd6 : Hid (∀ q, q < m → 0 ≤ ys.getD q 0 ∧ ys.getD q 0 ≤ 6) := fun q hq => ⟨(hbd.out q hq).1, by have := (hbd.out q hq).2; omega⟩
    have hF0 : Hid (∀ x : Nat, takeB ys (x : Nat) = true → 0 ≤ wayI m O (takeI ys (x : Nat)) ∧ wayI m O (takeI ys (x : Nat)) ≤ 68719476736) := fun x ht =>
      way_bd hm6 (by rw [took_len]; exact l2) (fun q hq => taken_nn ht q (by omega)) (by omega)
    have htot : wayI m (r :: O) ys ≤ 68719476736 := (way_bd hm6 l2 (fun q hq => (hbd.out q hq).1) (by simp; omega)).2
    obtain ⟨F, hFe⟩ : ∃ F : Nat → Int, (fun x : Nat => if (cntI (x : Nat) m = r ∧ bitI (x : Nat) j = 1) ∧ takeB ys (x : Nat) = true then wayI m O (takeI ys (x : Nat)) else 0) = F := ⟨_, rfl⟩
    have hFm : Hid (∀ x : Nat, F x = if (cntI (x : Nat) m = r ∧ bitI (x : Nat) j = 1) ∧ takeB ys (x : Nat) = true then wayI m O (takeI ys (x : Nat)) else 0) := fun x => by rw [← hFe]
    have hF1 : ∀ x : Nat, 0 ≤ F x ∧ F x ≤ (if cntI (x : Nat) m = r ∧ takeB ys (x : Nat) = true then wayI m O (takeI ys (x : Nat)) else 0) := fun x => by
      rw [hFm.out]
      by_cases hA : (cntI (x : Nat) m = r ∧ bitI (x : Nat) j = 1) ∧ takeB ys (x : Nat) = true
      · have h0 := hF0.out x hA.2
        rw [if_pos hA, if_pos ⟨hA.1.1, hA.2⟩]; omega
      · rw [if_neg hA]
        by_cases hB : cntI (x : Nat) m = r ∧ takeB ys (x : Nat) = true
        · have h0 := hF0.out x hB.2
          rw [if_pos hB]; omega
        · rw [if_neg hB]; omega
    have hFt : sumI F P ≤ wayI m (r :: O) ys := by
      rw [wayI, hP]
      have hle : ∀ (f g : Nat → Int) (k : Nat), (∀ x, f x ≤ g x) → sumI f k ≤ sumI g k := fun f g k h => by
        induction k with
        | zero => exact Int.le_refl _
        | succ k ih => have := h k; simp only [sumI]; omega
      exact hle _ _ _ fun x => (hF1 x).2
    have hsp := Lib.hid (fun kk (hk : kk ≤ P) => sum_part (f := F) (K := P) (fun x _ => (hF1 x).1) hk)
    have hsn := Lib.hid (fun kk => show sumI F (kk + 1) = sumI F kk + F kk from rfl)
    have htk := Lib.hid (fun (x : Nat) (hx : x < P) wx hx2 => take_spec a' m cap' ys (x : Nat) wx hx2 hm1 hm6 hbd6.out (by omega) (by omega))
    have hih := Lib.hid (fun (x : Nat) (ht : takeB ys (x : Nat) = true) (g c2 : Nat) (wx : World) (h1 : Row wx aO (n - 1) O) (h2 : Row wx (some ⟨g, 0, none⟩) m (takeI ys (x : Nat))) =>
      ways_spec m hm1 hm6 O aO (n - 1) cO (some ⟨g, 0, none⟩) c2 (takeI ys (x : Nat)) wx h1 h2 (by omega) hcO (fun q hq => ⟨taken_nn ht q (by omega), by rw [took_get _ (by omega)]; have := bit_01 (x : Nat) q; have := hbd6.out q hq; omega⟩))
    have hcl := Lib.hid (fun (x : Nat) (hx : x < P) wx => count_any (x : Int) wx (by omega) (by omega))
    have hbt := Lib.hid (fun (x : Nat) (hx : x < P) wx => bit_any (x : Int) j wx (by omega) (by omega) (by omega))
    have hce : Hid (cellW m r j O ys = sumI F P) := Lib.hid (by
      unfold cellW
      rw [hP, show (fun x : Nat => if (cntI (x : Nat) m = r ∧ bitI (x : Nat) j = 1) ∧ takeB ys (x : Nat) = true then wayI m O (takeI ys (x : Nat)) else 0) = F from hFe])
    replace hFe := Lib.hid hFe
    replace hP := Lib.hid hP
    replace hPi := Lib.hid hPi
    replace hOe := Lib.hid hOe
    clear hF1 hF0 hbd6
    go_wp2_with fail
    go_loopw [10, 11] (fun o v wr => ∃ x : Nat, x ≤ P ∧ v = .int .i64 x ∧ o = .int .i64 (sumI F x) ∧ Hid (Row wr (some ⟨ba, bo, none⟩) n xs) ∧ Hid (Row wr a' m ys) ∧ Hid (Row wr aO (n - 1) O) ∧ Hid (Below w.heap.size w wr)) (fun _ v _ => P - (intOf v).toNat)
    case atStart => exact ⟨0, Nat.zero_le _, rfl, rfl, hRx, hR', hO, hb⟩
    case round =>
      clear hRx hR' hO hb
      obtain ⟨x, hx, rfl, rfl, hR, hR', hO, hb⟩ := hrel
      obtain ⟨wo, rfl⟩ : ∃ wo : World, wo = wr := ⟨_, rfl⟩
      have hBs := hb.out.size
      have s1 := hsp.out x hx
      obtain ⟨V, hV⟩ : ∃ V, sumI F x = V := ⟨_, rfl⟩
      rw [hV] at s1 ⊢
      by_cases hlt : x < P
      case neg =>
        obtain rfl : x = P := by omega
        go_wp2_with fail
        refine (cp.out _).mono ?_
        rintro e w1 ⟨rfl, rfl⟩
        go_wp2_with fail
        go_ret
        exact ⟨by rw [hOe.out, hce.out, hV]; rfl, hb.out⟩
      have s2 := hsp.out (x + 1) (by omega)
      have hn1 := hsn.out x
      have hFx := hFm.out x
      have clx := Lib.hid (hcl.out x hlt)
      have btx := Lib.hid (hbt.out x hlt)
      have hlw := hlow.out x hlt
      rw [hlw] at clx
      obtain ⟨cc, hcc⟩ : ∃ cc, cntI (x : Nat) m = cc := ⟨_, rfl⟩
      rw [hcc] at clx hFx
      obtain ⟨bb, hbb⟩ : ∃ bb, bitI (x : Nat) j = bb := ⟨_, rfl⟩
      have hb01 := bit_two (x : Nat) j
      rw [hbb] at btx hFx hb01
      rw [hV] at hn1
      obtain ⟨ba', bo', ebo, hri⟩ := row_at hR.out hi
      cases ebo
      rw [hr.out] at hri
      have hix := Lib.hid (hih.out x)
      replace hV := Lib.hid hV
      replace hcc := Lib.hid hcc
      replace hbb := Lib.hid hbb
      clear hlw
      go_wp2_with fail
      refine (cp.out _).mono ?_
      rintro e w1 ⟨rfl, rfl⟩
      by_cases hgo : cc = r ∧ bb = 1
      case neg =>
        rw [if_neg (fun h => hgo h.1), ] at hFx
        rw [hFx, Int.add_zero] at hn1
        replace hn1 := Lib.hid hn1
        have hcase : (cc != r) = true ∨ ((cc != r) = false ∧ bb = 0) := by
          by_cases h : cc = r
          · right; exact ⟨by simpa using h, by rcases hb01 with h2 | h2; exact h2; exact absurd ⟨h, h2⟩ hgo⟩
          · left; simpa using h
        clear hgo hb01
        rcases hcase with hne | ⟨hne, rfl⟩
        all_goals
          go_wp2_with fail
          go_quiet (first | (go_at_call 33; exact qd (clx.out _)) | (go_at_call 34; exact qd (btx.out _)))
          have hbq := below_drewN (Below.refl wo.heap.size wo) nq
          have hB2 := Lib.hid (hb.out.trans (hbq.mono hBs))
          have hR2 := Lib.hid (hR.out.bel hbq)
          have hR2' := Lib.hid (hR'.out.bel hbq)
          have hO2 := Lib.hid (hO.out.bel hbq)
          clear hbq
          go_wp2_with fail
          exact ⟨⟨x + 1, by omega, by go_num, by rw [hn1.out], hR2, hR2', hO2, hB2⟩, by simp [intOf]; omega⟩
      obtain ⟨hcr, rfl⟩ := hgo
      have hne : (cc != r) = false := by simpa using hcr
      replace hcr := Lib.hid hcr
      clear hb01
      go_wp2_with fail
      go_quiet (first | (go_at_call 33; exact qd (clx.out _)) | (go_at_call 34; exact qd (btx.out _)))
      have hbq := below_drewN (Below.refl wo.heap.size wo) nq
      obtain ⟨wq, hwq⟩ : ∃ wq, wo.drewN nq = wq := ⟨_, rfl⟩
      rw [hwq] at hbq ⊢
      have hBq := hb.out.trans (hbq.mono hBs)
      replace hR := Lib.hid (hR.out.bel hbq)
      replace hR' := Lib.hid (hR'.out.bel hbq)
      replace hO := Lib.hid (hO.out.bel hbq)
      have htq := Lib.hid (htk.out x hlt wq hR'.out)
      have hBqs := hBq.size
      replace hBq := Lib.hid hBq
      clear hwq hbq hb hri
      go_wp2_with fail
      refine htq.out.mono ?_
      rintro e w3 ⟨hres, hb3⟩
      have hB3 := Lib.hid (hBq.out.trans (hb3.mono hBqs))
      replace hR := Lib.hid (hR.out.bel hb3)
      replace hR' := Lib.hid (hR'.out.bel hb3)
      replace hO := Lib.hid (hO.out.bel hb3)
      rcases hres with ⟨ht, g, c2, rfl, ho⟩ | ⟨ht, g, c2, rfl⟩
      · rw [if_pos ⟨⟨hcr.out, by first | rfl | trivial⟩, ht⟩] at hFx
        have ho3 := Lib.hid ho.row
        obtain ⟨U, hU⟩ : ∃ U, wayI m O (takeI ys (x : Nat)) = U := ⟨_, rfl⟩
        have hcall := hix.out ht
        rw [hU] at hFx hcall
        rw [hFx] at hn1
        have hw1 : IntKind.i64.wrap (V + U) = V + U := by rw [← hn1]; exact IntWalk.i64_in _ ⟨by omega, by omega⟩
        have hw2 : wrap64 (V + U) = V + U := by rw [← hn1]; exact IntWalk.wrap64_in _ ⟨by omega, by omega⟩
        replace hU := Lib.hid hU
        replace hn1 := Lib.hid hn1
        replace hcall := Lib.hid hcall
        clear ho hb3 hix htq hBq
        go_wp2_with fail
        refine (hcall.out g c2 w3 hO.out ho3.out).mono ?_
        rintro e w4 ⟨rfl, hb4⟩
        have hB4 := Lib.hid (hB3.out.trans (hb4.mono hB3.out.size))
        replace hR := Lib.hid (hR.out.bel hb4)
        replace hR' := Lib.hid (hR'.out.bel hb4)
        replace hO := Lib.hid (hO.out.bel hb4)
        clear hb4
        go_wp2_with fail
        exact ⟨⟨x + 1, by omega, by go_num, by rw [hn1.out], hR, hR', hO, hB4⟩, by simp [intOf]; omega⟩
      · rw [if_neg (fun h => by rw [h.2] at ht; cases ht)] at hFx
        rw [hFx, Int.add_zero] at hn1
        replace hn1 := Lib.hid hn1
        clear hb3 hix htq hBq
        go_wp2_with fail
        exact ⟨⟨x + 1, by omega, by go_num, by rw [hn1.out], hR, hR', hO, hB3⟩, by simp [intOf]; omega⟩
end Go.Proofs.YtnfkafaolelkbaaGreatDoor

namespace Go.Proofs.YtnfkafaolelkbaaGreatDoor
set_option maxRecDepth 100000
open Go.RowKit

theorem cc_ok {xs ys : List Int} {i j N : Int} {n m : Nat} (h : ccO xs ys i j = N) (s : Option Addr) (c : Nat) (s' : Option Addr) (c' : Nat) (w : World) (hR : Row w s n xs) (hC : Row w s' m ys) (hn : n ≤ 13) (hm : m ≤ 13) :
    Calls Tryz.prog 12 #[.slice s n c, .slice s' m c', .int .i64 i, .int .i64 j] w fun e w' => e = .returned (.int .i64 N) ∧ Below w.heap.size w w' := by
  rw [← h]; exact cc_impl s n c s' m c' xs ys i j w hR hC (by omega) (by omega)
theorem cc_sok {xs ys : List Int} {i j N : Int} {n m : Nat} (h : ccO xs ys i j = N) (s : Option Addr) (c : Nat) (s' : Option Addr) (c' : Nat) (w : World) (hR : Row w s n xs) (hC : Row w s' m ys) (hn : n ≤ 13) (hm : m ≤ 13) (hc : n ≤ c) :
    Calls Tryz.prog 13 #[.slice s n c, .slice s' m c', .int .i64 i, .int .i64 j] w fun e w' => e = .returned (.int .i64 N) ∧ Below w.heap.size w w' := by
  rw [← h]; exact cc_spec s n c s' m c' xs ys i j w hR hC (by omega) (by omega) hc
theorem cco_yes {xs ys : List Int} {i j : Nat} (h : ctdB xs ys = true) (hi : i < xs.length) (hj : j < ys.length) : ccO xs ys i j = cntC xs ys i j := by
  unfold ccO
  rw [if_pos ⟨h, ⟨by omega, by omega⟩, by omega, by omega⟩, Int.toNat_natCast, Int.toNat_natCast]
theorem cco_no {xs ys : List Int} {i j : Int} (h : ¬ (ctdB xs ys = true ∧ (0 ≤ i ∧ i < xs.length) ∧ (0 ≤ j ∧ j < ys.length))) : ccO xs ys i j = -1 := if_neg h
end Go.Proofs.YtnfkafaolelkbaaGreatDoor
