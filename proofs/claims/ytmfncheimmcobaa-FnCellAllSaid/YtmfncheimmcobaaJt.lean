/-
  slices.DeleteFunc as CellCount uses it, and the contract of the program's CellCount.
-/
import Derived.Test.YtmfncheimmcobaaJs
import Derived.Test.YtmfncheimmcobaaJk
import Derived.Lib.SliceRun
namespace Go.Proofs.Ytmfncheimmcobaa
set_option maxRecDepth 100000
open Go.RowKit

theorem OwnI.cutTo {w : World} {B g N c i : Nat} {L : List Int} (h : OwnI w B (some ⟨g, 0, none⟩) N c L) (hi : i ≤ N) : OwnI w B (some ⟨g, 0, none⟩) i c (L.take i) := by
  obtain ⟨h1, h2⟩ := h
  refine ⟨by have := h1; simp at this ⊢; omega, ?_⟩
  rcases h2 with ⟨e, _⟩ | ⟨q, cp, cur, e, hB, hh, hn, hm, hs, ht⟩
  · cases e
  · cases e
    refine .inr ⟨g, c, cur, rfl, hB, hh, by omega, hm, hs, ?_⟩
    rw [List.map_take, ← ht, List.take_take]
    congr 1
    omega
theorem own_zeros {B g N c : Nat} : ∀ (n o : Nat) (w : World) (L : List Int), OwnI w B (some ⟨g, 0, none⟩) N c L →
    ∃ L' : List Int, L'.take o = L.take o ∧ OwnI (w.setCells g o (List.replicate n (.int .i64 0))) B (some ⟨g, 0, none⟩) N c L' ∧ w.grownBy (w.setCells g o (List.replicate n (.int .i64 0))) (some g)
  | 0, o, w, L, h => ⟨L, rfl, h, World.grownBy.refl _ _⟩
  | n + 1, o, w, L, h => by
    obtain ⟨L', h1, h2, h3⟩ := own_zeros n (o + 1) _ _ (h.set o 0)
    refine ⟨L', ?_, h2, grown_trans (grown_set (World.grownBy.refl _ _)) h3⟩
    have := congrArg (fun l : List Int => l.take o) h1
    simp only [List.take_take] at this
    rw [show min o (o + 1) = o by omega] at this
    rw [this, List.take_set_of_le (Nat.le_refl _)]
theorem bit_two (x : Int) (j : Nat) : bitI x j = 0 ∨ bitI x j = 1 := by have := bit_01 x j; omega
theorem bitL_snoc (j : Nat) (L : List Int) (x : Int) : bitL j (L ++ [x]) = bitL j L ++ if bitI x j = 1 then [x] else [] := by
  unfold bitL
  rw [List.filter_append]
  congr 1
  by_cases h : bitI x j = 1
  · rw [if_pos h]; simp [h]
  · rw [if_neg h]; simp [h]
theorem bitL_take {j q : Nat} {L : List Int} (hq : q < L.length) : bitL j (L.take (q + 1)) = bitL j (L.take q) ++ if bitI (L.getD q 0) j = 1 then [L.getD q 0] else [] := by
  have e : L.take (q + 1) = L.take q ++ [L.getD q 0] := by
    rw [List.take_add_one]; simp [List.getElem?_eq_getElem hq, List.getD_eq_getElem?_getD]
  rw [e, bitL_snoc]
theorem bitL_le (j : Nat) (L : List Int) : (bitL j L).length ≤ L.length := List.length_filter_le ..

theorem pred_any (k j : Nat) (x : Int) (w : World) (hk : w.cell? ⟨k, 0, none⟩ = some (.int .i64 j)) (h0 : 0 ≤ x) (h1 : x ≤ 63) (h6 : j ≤ 6) :
    Calls Try.prog 58 #[.int .i64 x, .pointer (some ⟨k, 0, none⟩)] w fun e w' => e = .returned (.bool (bitI x j == 0)) ∧ w = w' := by
  have E := shr_bit (j := j) h0 h1
  go_enter Try.func58, Try.ntmps58
  go_wp2_with fail
  go_ret
  exact ⟨by rw [← E]; rfl, rfl⟩

set_option maxHeartbeats 1600000 in
theorem index_pred (k j : Nat) (a : Option Addr) (N c : Nat) (L : List Int) (w : World) (hk : w.cell? ⟨k, 0, none⟩ = some (.int .i64 j)) (h : Row w a N L) (hL : ∀ x, x ∈ L → 0 ≤ x ∧ x ≤ 63) (hN : N ≤ 64) (h6 : j ≤ 6) :
    Calls Try.prog 79 #[.slice a N c, .func (.func 58) #[] #[.pointer (some ⟨k, 0, none⟩)]] w fun e w' =>
      ((e = .returned (.int .i64 (-1)) ∧ bitL j L = L) ∨ ∃ i : Nat, e = .returned (.int .i64 i) ∧ i < N ∧ bitI (L.getD i 0) j = 0 ∧ bitL j (L.take i) = L.take i) ∧ w = w' := by
  have hl := h.1
  have hR := Lib.hid h
  have hx := Lib.hid (fun q (hq : q < N) => show 0 ≤ L.getD q 0 ∧ L.getD q 0 ≤ 63 from by rw [getD_elem (by omega)]; exact hL _ (List.getElem_mem _))
  clear h hL
  go_enter Try.func79, Try.ntmps79
  go_wp2_with fail
  go_loopw [8] (fun i wr => ∃ q : Nat, q ≤ N ∧ i = .int .i64 q ∧ Hid (bitL j (L.take q) = L.take q) ∧ Hid (w = wr)) (fun i _ => N - (intOf i).toNat)
  case atStart => exact ⟨0, Nat.zero_le _, rfl, rfl, rfl⟩
  case round =>
    obtain ⟨q, hq, rfl, hb, hw⟩ := hrel
    obtain rfl := hw.out
    clear hw
    by_cases hlt : q < N
    · obtain ⟨ab, ao, rfl, hc⟩ := row_at hR.out hlt
      have hxq := hx.out q hlt
      have htk := Lib.hid (bitL_take (j := j) (L := L) (show q < L.length by omega))
      have htl := Lib.hid (show L.take (q + 1) = L.take q ++ [L.getD q 0] from by rw [List.take_add_one]; simp [List.getElem?_eq_getElem (show q < L.length by omega), List.getD_eq_getElem?_getD])
      obtain ⟨x, hxe⟩ : ∃ x, L.getD q 0 = x := ⟨_, rfl⟩
      rw [hxe] at hc hxq htk htl
      have hp := pred_any k j x w hk hxq.1 hxq.2 h6
      rcases bit_two x j with e | e
      · rw [e] at hp
        replace hxe := Lib.hid hxe
        replace e := Lib.hid e
        go_wp2_with fail
        refine hp.mono ?_
        rintro e1 w1 ⟨rfl, rfl⟩
        go_wp2_with fail
        go_ret
        exact ⟨.inr ⟨q, rfl, hlt, by rw [hxe.out]; exact e.out, hb.out⟩, rfl⟩
      · rw [e] at hp
        have hn : Hid (bitL j (L.take (q + 1)) = L.take (q + 1)) := Lib.hid (by rw [htk.out, if_pos e, hb.out, htl.out])
        replace hxe := Lib.hid hxe
        replace e := Lib.hid e
        go_wp2_with fail
        refine hp.mono ?_
        rintro e1 w1 ⟨rfl, rfl⟩
        go_wp2_with fail
        exact ⟨⟨q + 1, by omega, by go_num, hn, by first | exact Lib.hid rfl | exact Lib.hid trivial⟩, by simp [intOf]; omega⟩
    · obtain rfl : q = N := by omega
      rw [List.take_of_length_le (by omega)] at hb
      go_wp2_with fail
      go_ret
      exact ⟨.inl ⟨rfl, hb.out⟩, rfl⟩
/-- 'clear(s)' of the call's own numbers, from a place on. -/
theorem wpList_clear_own {w : World} {ops : Array Oper} {rest : List Oper} {o : Oper} {a : Act} {Q : Exit → Act → World → Prop} (hgd : o.guard = none) (s : Operand) (ho : o.op = .call { callee := .builtin .clear, args := #[s], argTypes := #[23] })
    (B g off n cp N c : Nat) (L : List Int) (hs : a.eval s = .slice (some ⟨g, off, none⟩) n cp) (h : OwnI w B (some ⟨g, 0, none⟩) N c L) (hn : 0 < n) (hN : off + n ≤ N)
    (hK : ∀ w' L', L'.take off = L.take off → OwnI w' B (some ⟨g, 0, none⟩) N c L' → w.grownBy w' (some g) → wpList Try.prog ops Q rest (a.put o.dst (.tuple #[])) w') : wpList Try.prog ops Q (o :: rest) a w := by
  refine wpList_plain hgd fun K' hK' => ?_
  obtain ⟨L', h1, h2, h3⟩ := own_zeros n off w L h
  have hl := h.len
  have hrun := Lib.run_clear_slice (P := Try.prog) w 23 3 o.type (.int .i64 0) Try.underlying23 (fun w => by kernel_rfl) rfl rfl g off n cp hn
    (fun j hj => by rw [own_cell h (i := off + j) (by omega)]; rfl) (fun j _ => h.frozen _)
  unfold Oper.wp
  simp [execOp, ho, resolve, invoke, builtin, hs, hrun, Result.andThen]
  exact hK' _ _ (hK _ L' h1 h2 h3)
set_option maxHeartbeats 3200000 in
theorem delete_pred (k j B g N c : Nat) (L : List Int) (w : World) (hk : w.cell? ⟨k, 0, none⟩ = some (.int .i64 j)) (h : OwnI w B (some ⟨g, 0, none⟩) N c L) (hkg : k ≠ g) (hL : ∀ x, x ∈ L → 0 ≤ x ∧ x ≤ 63) (hN : N ≤ 64) (h6 : j ≤ 6) :
    Calls Try.prog 57 #[.slice (some ⟨g, 0, none⟩) N c, .func (.func 58) #[] #[.pointer (some ⟨k, 0, none⟩)]] w fun e w' =>
      e = .returned (.slice (some ⟨g, 0, none⟩) (bitL j L).length c) ∧ OwnI w' B (some ⟨g, 0, none⟩) (bitL j L).length c (bitL j L) ∧ w.grownBy w' (some g) := by
  have hl := h.len
  have hix := index_pred k j (some ⟨g, 0, none⟩) N c L w hk h.row hL hN h6
  have hx := Lib.hid (fun q (hq : q < N) => show 0 ≤ L.getD q 0 ∧ L.getD q 0 ≤ 63 from by rw [getD_elem (by omega)]; exact hL _ (List.getElem_mem _))
  have hO := Lib.hid h
  have hcap := own_cap h
  have hcap2 : c ≤ 9223372036854775807 := by
    rcases h.2 with ⟨e, _⟩ | ⟨q, cp, cur, e, _, _, _, hm, _⟩
    · cases e
    · cases e; unfold maxLen at hm; omega
  obtain ⟨R, hRR⟩ : ∃ R, bitL j L = R := ⟨_, rfl⟩
  rw [hRR]
  clear h hL
  go_enter Try.func57, Try.ntmps57
  go_wp2_with fail
  refine hix.mono ?_
  rintro e w1 ⟨hres, rfl⟩
  clear hix
  rcases hres with ⟨rfl, hall⟩ | ⟨i, rfl, hi, hbit, hpre⟩
  · obtain rfl : R = L := hRR.symm.trans hall
    replace hall := Lib.hid hall
    replace hRR := Lib.hid hRR
    go_wp2_with fail
    go_ret
    exact ⟨by rw [hl]; rfl, by rw [hl]; exact hO.out, World.grownBy.refl _ _⟩
  have hst : Hid (L.take i = bitL j (L.take (i + 1))) := Lib.hid (by rw [bitL_take (by omega), hbit, hpre]; simp)
  have hne : ((i : Int) == -1) = false := by rw [beq_eq_false_iff_ne]; omega
  have hg0 : Hid (w.grownBy w (some g)) := World.grownBy.refl _ _
  replace hbit := Lib.hid hbit
  replace hpre := Lib.hid hpre
  replace hRR := Lib.hid hRR
  go_wp2_with fail
  go_loopw [5, 6] (fun o v wr => ∃ (p q : Nat) (M : List Int), p < q ∧ q ≤ N ∧ v = .int .i64 q ∧ o = .int .i64 p ∧ Hid (OwnI wr B (some ⟨g, 0, none⟩) N c M) ∧ Hid (M.take p = bitL j (L.take q)) ∧ Hid (∀ r, q ≤ r → r < N → M.getD r 0 = L.getD r 0) ∧ Hid (w.grownBy wr (some g))) (fun _ v _ => N - (intOf v).toNat)
  case atStart => exact ⟨i, i + 1, L, by omega, by omega, by go_num, rfl, hO, hst, Lib.hid (fun _ _ _ => rfl), hg0⟩
  case round =>
    clear hO hst hg0 hbit hpre hne
    obtain ⟨p, q, M, hpq, hq, rfl, rfl, hO, hT, hD, hg⟩ := hrel
    obtain ⟨wo, rfl⟩ : ∃ wo : World, wo = wr := ⟨_, rfl⟩
    have hml := hO.out.len
    by_cases hlt : q < N
    · have hc := own_cell hO.out hlt
      rw [hD.out q (Nat.le_refl _) hlt] at hc
      have hxq := hx.out q hlt
      have htk := Lib.hid (bitL_take (j := j) (L := L) (show q < L.length by omega))
      obtain ⟨x, hxe⟩ : ∃ x, L.getD q 0 = x := ⟨_, rfl⟩
      rw [hxe] at hc hxq htk
      have hk2 := hg.out.cell hk (by intro e; exact hkg (Option.some.inj e))
      have hp := pred_any k j x wo hk2 hxq.1 hxq.2 h6
      have hcp := own_cell hO.out (show p < N by omega)
      have hfz := hO.out.frozen
      obtain ⟨y, hy⟩ : ∃ y, M.getD p 0 = y := ⟨_, rfl⟩
      rw [hy] at hcp
      replace hy := Lib.hid hy
      have hD1 : Hid (∀ r, q + 1 ≤ r → r < N → M.getD r 0 = L.getD r 0) := fun r h1 h2 => hD.out r (by omega) h2
      rcases bit_two x j with e | e
      · rw [e] at hp
        have hT1 : Hid (M.take p = bitL j (L.take (q + 1))) := Lib.hid (by rw [htk.out, if_neg (by omega), List.append_nil]; exact hT.out)
        replace e := Lib.hid e
        replace hxe := Lib.hid hxe
        go_wp2_with fail
        refine hp.mono ?_
        rintro e1 w1 ⟨rfl, rfl⟩
        go_wp2_with fail
        exact ⟨⟨p, q + 1, M, by omega, by omega, by go_num, rfl, hO, hT1, hD1, hg⟩, by simp [intOf]; omega⟩
      · rw [e] at hp
        have hO2 := Lib.hid (hO.out.set p x)
        have hT1 : Hid ((M.set p x).take (p + 1) = bitL j (L.take (q + 1))) := Lib.hid (by
          rw [htk.out, if_pos e, ← hT.out, List.take_add_one, List.take_set_of_le (Nat.le_refl _)]
          simp [show p < M.length by omega])
        have hD2 : Hid (∀ r, q + 1 ≤ r → r < N → (M.set p x).getD r 0 = L.getD r 0) := fun r h1 h2 => by
          rw [← hD1.out r h1 h2]
          simp [List.getD_eq_getElem?_getD, List.getElem?_set_ne (show p ≠ r by omega)]
        have hg2 : Hid (w.grownBy (wo.setCell ⟨g, p, none⟩ (.int .i64 x)) (some g)) := grown_trans hg.out (grown_set (World.grownBy.refl _ _))
        replace e := Lib.hid e
        replace hxe := Lib.hid hxe
        clear hO hT hD hD1 hg
        go_wp2_with fail
        refine hp.mono ?_
        rintro e1 w1 ⟨rfl, rfl⟩
        go_wp2_with fail
        exact ⟨⟨p + 1, q + 1, M.set p x, by omega, by omega, by go_num, by go_num, hO2, hT1, hD2, hg2⟩, by simp [intOf]; omega⟩
    · obtain rfl : q = N := by omega
      have hLt : L.take q = L := List.take_of_length_le (by omega)
      rw [hLt, hRR.out] at hT
      have hpR : R.length = p := by rw [← hT.out, List.length_take]; omega
      have hpc : p ≤ c := by omega
      replace hpR := Lib.hid hpR
      go_wp2_with (refine wpList_clear_own rfl _ rfl B g p (q - p) (c - p) q c M rfl hO.out (by omega) (by omega) ?_)
      intro w2 M2 hM2 hO2 hg2
      have hO3 := hO2.cutTo (show p ≤ q by omega)
      rw [hM2, hT.out] at hO3
      replace hO3 := Lib.hid hO3
      have hg3 := Lib.hid (grown_trans hg.out hg2)
      clear hM2 hO2 hg2 hg hO hT hD
      go_wp2_with fail
      go_ret
      exact ⟨by rw [hpR.out]; rfl, by rw [hpR.out]; exact hO3.out, hg3.out⟩
/-- One of the lists is made another one, in its own block. -/
theorem ChAt.at_ {B g n : Nat} {wr : World} {C : List (List Int)} (h : ChAt B wr g n C) {q : Nat} (hq : q < C.length) :
    ∃ b c, wr.cell? ⟨g, q, none⟩ = some (.slice (some ⟨b, 0, none⟩) C[q].length c) ∧ OwnI wr B (some ⟨b, 0, none⟩) C[q].length c C[q] ∧ b ≠ g ∧
      ∀ (w1 : World) (L' : List Int), wr.grownBy w1 (some b) → OwnI w1 B (some ⟨b, 0, none⟩) L'.length c L' → w1.cell? ⟨g, q, none⟩ = some (.slice (some ⟨b, 0, none⟩) C[q].length c) ∧ (∀ o, w1.frozen? ⟨g, o, none⟩ = false) ∧
        ChAt B (w1.setCell ⟨g, q, none⟩ (.slice (some ⟨b, 0, none⟩) L'.length c)) g n (C.set q L') := by
  obtain ⟨vals, bs, h1, h2, h3, h4, h5⟩ := h
  obtain ⟨c, e1, e2⟩ := h5 q hq
  have hv : vals.length = n := by have := h1.1; omega
  have nd := List.nodup_cons.1 h4
  have hne : ∀ p, p < C.length → bs.getD p 0 ≠ g := fun p hp e => by
    refine nd.1 ?_
    rw [← e, show bs.getD p 0 = bs[p] by simp [show p < bs.length by omega]]
    exact List.getElem_mem _
  have hap : ∀ p, p < C.length → p ≠ q → bs.getD p 0 ≠ bs.getD q 0 := fun p hp hpq e => by
    rw [show bs.getD p 0 = bs[p] by simp [show p < bs.length by omega], show bs.getD q 0 = bs[q] by simp [show q < bs.length by omega]] at e
    rcases Nat.lt_or_gt_of_ne hpq with hh | hh
    · exact List.pairwise_iff_getElem.1 nd.2 p q (by omega) (by omega) hh e
    · exact List.pairwise_iff_getElem.1 nd.2 q p (by omega) (by omega) hh e.symm
  refine ⟨bs.getD q 0, c, by rw [World.ownsRow.cellAt h1 _ (by omega), e1], e2, hne q hq, fun w1 L' hg hL => ?_⟩
  have h1' := World.ownsRow.kept h1 hg (.inr (fun e => hne q hq (Option.some.inj e).symm))
  have hg2 : w1.grownBy (w1.setCell ⟨g, q, none⟩ (.slice (some ⟨bs.getD q 0, 0, none⟩) L'.length c)) (some g) := grown_set (World.grownBy.refl _ _)
  refine ⟨by rw [World.ownsRow.cellAt h1' _ (by omega), e1], World.ownsRow.frozenAt h1', vals.set q (.slice (some ⟨bs.getD q 0, 0, none⟩) L'.length c), bs, (World.ownsRow.stored h1' q _).1, by simpa using h2, by simpa using h3, h4, fun p hp => ?_⟩
  rw [List.length_set] at hp
  by_cases e : p = q
  · subst e
    refine ⟨c, by rw [List.getElem?_set_self (by omega)]; simp, ?_⟩
    simp only [List.getElem_set_self]
    exact World.ownsRow.kept hL hg2 (.inr (fun e3 => hne p hq (Option.some.inj e3)))
  · obtain ⟨c2, d1, d2⟩ := h5 p hp
    refine ⟨c2, by rw [List.getElem?_set_ne (fun e2 => e e2.symm), d1, List.getElem_set_ne (fun e2 => e e2.symm)], ?_⟩
    rw [List.getElem_set_ne (fun e2 => e e2.symm)]
    exact World.ownsRow.kept (World.ownsRow.kept d2 hg (.inr (fun e3 => hap p hp e (Option.some.inj e3)))) hg2 (.inr (fun e3 => hne p hp (Option.some.inj e3)))

/-- What CellCount answers. -/
def ccO (rows cols : List Int) (i j : Int) : Int := if ctdB rows cols = true ∧ (0 ≤ i ∧ i < rows.length) ∧ (0 ≤ j ∧ j < cols.length) then cntC rows cols i.toNat j.toNat else -1
set_option maxHeartbeats 3200000 in
theorem cc_impl (a : Option Addr) (n cap : Nat) (a' : Option Addr) (m cap' : Nat) (xs ys : List Int) (i j : Int) (w : World) (h : Row w a n xs) (h' : Row w a' m ys) (hn : n ≤ 1048576) (hm : m ≤ 1048576) :
    Calls Try.prog 29 #[.slice a n cap, .slice a' m cap', .int .i64 i, .int .i64 j] w fun e w' => e = .returned (.int .i64 (ccO xs ys i j)) ∧ Below w.heap.size w w' := by
  have l1 := h.1
  have l2 := h'.1
  obtain ⟨W0, hW0⟩ : ∃ W0, W0 = w.alloc (.cells #[.int .i64 j] 3) := ⟨_, rfl⟩
  have bb : Hid (Below w.heap.size w W0) := by subst hW0; exact (Below.refl _ _).alloc (Nat.le_refl _) _
  have k0 : W0.cell? ⟨w.heap.size, 0, none⟩ = some (.int .i64 j) := by subst hW0; go_simp
  have hR := Lib.hid (h.bel bb.out)
  have hR' := Lib.hid (h'.bel bb.out)
  have hc := counted_any a n cap a' m cap' xs ys W0 hR.out hR'.out hn hm
  unfold ccO
  rw [l1, l2]
  clear h h'
  by_cases hs : ctdB xs ys = true ∧ (0 ≤ i ∧ i < n) ∧ (0 ≤ j ∧ j < m)
  case neg =>
    rw [if_neg hs]
    have hcase : ctdB xs ys = false ∨ (ctdB xs ys = true ∧ (i < 0 ∨ (0 ≤ i ∧ ((n : Int) ≤ i ∨ (i < n ∧ (j < 0 ∨ (0 ≤ j ∧ (m : Int) ≤ j))))))) := by
      by_cases e : ctdB xs ys = true
      · right
        refine ⟨e, ?_⟩
        have : ¬ ((0 ≤ i ∧ i < n) ∧ (0 ≤ j ∧ j < m)) := fun h => hs ⟨e, h⟩
        omega
      · left; simpa using e
    clear hs
    rcases hcase with e | ⟨e, e1 | ⟨e0, e1 | ⟨e2, e3 | ⟨e3, e4⟩⟩⟩⟩
    all_goals
      rw [e] at hc
      go_enter Try.func29, Try.ntmps29
      go_upto_region 1 with fail
      rw [← hW0]
      clear hW0
      go_wp2_with fail
      refine hc.mono ?_
      rintro e w2 ⟨rfl, hb⟩
      replace k0 := kept hb (block_lt k0) k0
      replace bb := Lib.hid (bb.out.trans (hb.mono bb.out.size))
      clear hb
      go_wp2_with fail
      go_ret
      exact ⟨rfl, bb.out⟩
  obtain ⟨hs, ⟨hi0, hi1⟩, hj0, hj1⟩ := hs
  rw [if_pos ⟨hs, ⟨hi0, hi1⟩, hj0, hj1⟩]
  obtain ⟨i, rfl⟩ := Int.eq_ofNat_of_zero_le hi0
  obtain ⟨j, rfl⟩ := Int.eq_ofNat_of_zero_le hj0
  have hi : i < n := by omega
  have hj : j < m := by omega
  rw [Int.toNat_natCast, Int.toNat_natCast]
  rw [hs] at hc
  have hs2 := (ctdB_parts hs).1
  have hp := sumsB_parts hs2
  have hq := Lib.hid (cell_ckr hs2 (i := i) (j := j) (by omega))
  rw [l1, l2] at hp
  rw [l2] at hq
  have hbd := Lib.hid hp.2.2.2
  have hn6 := hp.1.2
  have hm1 := hp.2.1.1
  have hm6 := hp.2.1.2
  clear hp hs2 hs hi0 hj0
  go_enter Try.func29, Try.ntmps29
  go_upto_region 1 with fail
  rw [← hW0]
  clear hW0
  go_wp2_with fail
  refine hc.mono ?_
  rintro e w2 ⟨rfl, hb⟩
  replace k0 := kept hb (block_lt k0) k0
  replace hR := Lib.hid (hR.out.bel hb)
  replace hR' := Lib.hid (hR'.out.bel hb)
  replace bb := Lib.hid (bb.out.trans (hb.mono bb.out.size))
  clear hb hc
  go_wp2_with fail
  refine (choices_any m hm6 a n cap xs w2 hR.out hn6).mono ?_
  rintro e w3 ⟨⟨g, rfl, hA⟩, hb⟩
  have hkw : w.heap.size < w2.heap.size := block_lt k0
  have hBs := bb.out.size
  replace k0 := kept hb (block_lt k0) k0
  have hb3 := Lib.hid hb
  have hcl : (choC m xs).length = n := by rw [cho_len]; exact l1
  have hce : (choC m xs)[i]? = some (withL m (xs.getD i 0) (pn m)) := cho_get (by omega)
  obtain ⟨L, hL⟩ : ∃ L, withL m (xs.getD i 0) (pn m) = L := ⟨_, rfl⟩
  rw [hL] at hce hq
  have hLe : (choC m xs)[i]'(by omega) = L := by rw [List.getElem?_eq_getElem (by omega)] at hce; exact Option.some.inj hce
  have hLs := cho_small hm6 (rows := xs) L (by rw [← hLe]; exact List.getElem_mem _)
  obtain ⟨b, c, hc1, hO, hbg, hset⟩ := hA.at_ (q := i) (by omega)
  rw [hLe] at hc1 hO hset
  have hfar := hA.far
  have hbr : w2.heap.size ≤ b := (rng_own hO _ rfl).1
  have hbr2 := hbr
  have hbw : w.heap.size ≠ b := by omega
  obtain ⟨len, hlen⟩ : ∃ len, L.length = len := ⟨_, rfl⟩
  rw [hlen] at hc1 hO hset
  have hdel := delete_pred w.heap.size j w2.heap.size b len c L w3 k0 hO hbw hLs.2 (by omega) (by omega)
  replace hL := Lib.hid hL
  replace hLe := Lib.hid hLe
  replace hlen := Lib.hid hlen
  replace hset := Lib.hid hset
  replace hq := Lib.hid hq.out
  clear hA hb hce hO hbr hR
  go_wp2_with fail
  refine hdel.mono ?_
  rintro e w4 ⟨rfl, hO, hg⟩
  obtain ⟨hcg, hfg, hA⟩ := hset.out w4 _ hg hO
  have hb4 := hb3.out.grown hg hb3.out.size (fun j hj => by cases hj; exact hbr2)
  have hb5 := hb4.setCell (show w2.heap.size ≤ (⟨g, i, none⟩ : Addr).block from hfar.1) (.slice (some ⟨b, 0, none⟩) (bitL j L).length c)
  replace hR' := Lib.hid (hR'.out.bel hb5)
  replace bb := Lib.hid (bb.out.trans (hb5.mono hBs))
  have hA2 := Lib.hid (hA.read (by rw [List.length_set]; exact hcl))
  have hC : ∀ M, M ∈ (choC m xs).set i (bitL j L) → M.length ≤ 64 ∧ ∀ x, x ∈ M → 0 ≤ x ∧ x ≤ 63 := fun M hM => by
    rcases List.mem_or_eq_of_mem_set hM with h | rfl
    · exact cho_small hm6 M h
    · exact ⟨Nat.le_trans (bitL_le j L) hLs.1, fun x hx => hLs.2 x (List.mem_filter.1 hx).1⟩
  replace hC := Lib.hid hC
  obtain ⟨l5, hl5⟩ : ∃ l5, (bitL j L).length = l5 := ⟨_, rfl⟩
  rw [hl5] at hA2 bb hR' ⊢
  replace hl5 := Lib.hid hl5
  clear hO hg hA hb4 hb5 hb3 hset hdel k0 hc1
  go_wp2_with fail
  refine (chosen_any _ n n _ a' m cap' ys _ hA2.out hR'.out hn6 hm1 hm6 (fun j hj => ⟨(hbd.out j hj).1, by have := (hbd.out j hj).2; omega⟩) hC.out).mono ?_
  rintro e w6 ⟨rfl, hb6⟩
  rw [hq.out]
  replace bb := Lib.hid (bb.out.trans (hb6.mono bb.out.size))
  clear hb6
  go_wp2_with fail
  go_ret
  exact ⟨rfl, bb.out⟩
end Go.Proofs.Ytmfncheimmcobaa

