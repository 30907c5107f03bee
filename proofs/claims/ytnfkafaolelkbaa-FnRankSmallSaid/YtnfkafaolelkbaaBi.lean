/-
  The contracts of the model's l16Row and ImageNth.
-/
import Derived.Test.YtnfkafaolelkbaaBh
import Derived.Test.YtnfkafaolelkbaaBf
namespace Go.Proofs.Ytnfkafaolelkbaa
set_option maxRecDepth 100000
open Go.RowKit

set_option maxHeartbeats 3200000 in
theorem row16_spec (W : Nat) (hW1 : 1 ≤ W) (hW : W ≤ 6) (r : Int) (rows : List Int) (ba bo k cap : Nat) (b : Option Addr) (cb : Nat) (cols : List Int) (nv : Int) (w : World) (h : Row w (some ⟨ba, bo, none⟩) (k + 1) (r :: rows)) (hc : Row w b W cols)
    (hn : k + 1 ≤ 6) (hcap : k + 1 ≤ cap) (hb : ∀ j, j < W → 0 ≤ cols.getD j 0 ∧ cols.getD j 0 ≤ 6) (h0 : 0 ≤ nv) (h1 : nv < wayI W (r :: rows) cols) :
    Calls Try.prog 76 #[.slice (some ⟨ba, bo, none⟩) (k + 1) cap, .slice b W cb, .int .i64 nv] w fun e w' => (∃ x : Nat, e = .returned (.tuple #[.int .i64 x, .int .i64 (nv - befI W r rows cols x)]) ∧ x < pn W ∧ befI W r rows cols x ≤ nv ∧ nv < befI W r rows cols (x + 1)) ∧ Below w.heap.size w w' := by
  obtain ⟨_, _, eba, hr0⟩ := row_at h (show 0 < k + 1 by omega)
  cases eba
  have hl := hc.1
  have hrl : rows.length = k := by have := h.1; simpa using this
  rw [show (r :: rows).getD 0 0 = r from rfl, Nat.add_zero] at hr0
  obtain ⟨P, hP⟩ : ∃ P, pn W = P := ⟨_, rfl⟩
  have hPi := pn_int W
  rw [hP] at hPi
  have hP64 : P ≤ 64 := by rw [← hP]; exact pn_64 hW
  have hlow := Lib.hid (fun (m : Nat) (hm : m < P) => cnt_low W (by omega) m (by omega))
  have cp := Lib.hid (fun wx => power_any W wx (by omega))
  rw [← hPi] at cp
  have hF : Hid (∀ m : Nat, (takeB cols (m : Nat) = true → 0 ≤ wayI W rows (takeI cols (m : Nat)) ∧ wayI W rows (takeI cols (m : Nat)) ≤ 68719476736)) := fun m ht =>
    way_bd hW (by rw [took_len]; exact hl) (fun j hj => taken_nn ht j (by omega)) (by omega)
  have htot := way_bd hW (rows := r :: rows) hl (fun j hj => (hb j hj).1) (by simp; omega)
  have hnvb : nv ≤ 68719476736 := by omega
  rw [way_bef, hP] at h1
  obtain ⟨F, hFe⟩ : ∃ F : Nat → Int, befI W r rows cols = F := ⟨_, rfl⟩
  have hsp : Hid (∀ x, x ≤ P → 0 ≤ F x ∧ F x ≤ 68719476736) := fun x hx => by
    have := bef_le (W := W) (r := r) (rest := rows) hl (k := x) (by omega)
    rw [hFe] at this
    omega
  have hsn : Hid (∀ x : Nat, F (x + 1) = F x + if cntI (x : Nat) W = r ∧ takeB cols (x : Nat) = true then wayI W rows (takeI cols (x : Nat)) else 0) := fun x => by rw [← hFe]; rfl
  have hF0 : Hid (F 0 = 0) := by rw [← hFe]; rfl
  rw [hFe] at h1 ⊢
  have htk := Lib.hid (fun (m : Nat) (hm : m < P) wx hx => take_spec b W cb cols (m : Nat) wx hx hW1 hW hb (by omega) (by omega))
  have hih := Lib.hid (fun (m : Nat) (ht : takeB cols (m : Nat) = true) (a' : Option Addr) (c' : Nat) (g c2 : Nat) (wx : World) (h1 : Row wx a' k rows) (h2 : Row wx (some ⟨g, 0, none⟩) W (takeI cols (m : Nat))) (h3 : k ≤ c') =>
    ways_spec W hW1 hW rows a' k c' (some ⟨g, 0, none⟩) c2 (takeI cols (m : Nat)) wx h1 h2 (by omega) h3 (fun j hj => ⟨taken_nn ht j (by omega), by rw [took_get _ (by omega)]; have := bit_01 (m : Nat) j; have := hb j hj; omega⟩))
  have hcl := Lib.hid (fun (x : Nat) (hx : x < P) wx => count_any (x : Int) wx (by omega) (by omega))
  have hR := Lib.hid h
  have hC := Lib.hid hc
  replace hFe := Lib.hid hFe
  replace hP := Lib.hid hP
  replace hPi := Lib.hid hPi
  replace h1 := Lib.hid h1
  have hk1 : ((k : Int) + 1 == 0) = false := by rw [beq_eq_false_iff_ne]; omega
  clear h hc hb htot
  go_enter Try.func76, Try.ntmps76
  go_wp2_with fail
  go_loopw [2, 8] (fun o i wr => ∃ x : Nat, x ≤ P ∧ i = .int .i64 x ∧ o = .int .i64 (nv - F x) ∧ Hid (F x ≤ nv) ∧ Hid (Below w.heap.size w wr)) (fun _ i _ => P - (intOf i).toNat)
  case atStart => exact ⟨0, Nat.zero_le _, rfl, by rw [hF0.out, Int.sub_zero], Lib.hid (by rw [hF0.out]; exact h0), Below.refl _ _⟩
  case round =>
    obtain ⟨x, hx, rfl, rfl, hle, hB⟩ := hrel
    obtain ⟨wo, rfl⟩ : ∃ wo : World, wo = wr := ⟨_, rfl⟩
    have hBs := hB.out.size
    have s1 := hsp.out x hx
    have hlx := hle.out
    by_cases hlt : x < P
    case neg =>
      obtain rfl : x = P := by omega
      have := h1.out
      omega
    have s2 := hsp.out (x + 1) (by omega)
    have hn1 := hsn.out x
    obtain ⟨V, hV⟩ : ∃ V, F x = V := ⟨_, rfl⟩
    rw [hV] at s1 hlx hn1 ⊢
    have clx := Lib.hid (hcl.out x hlt)
    have hlw := hlow.out x hlt
    rw [hlw] at clx
    obtain ⟨cc, hcc⟩ : ∃ cc, cntI (x : Nat) W = cc := ⟨_, rfl⟩
    rw [hcc] at clx hn1
    have hr1 := kept hB.out (block_lt hr0) hr0
    have hix := Lib.hid (hih.out x)
    have hFx := hF.out x
    replace hV := Lib.hid hV
    replace hcc := Lib.hid hcc
    clear hlw hle
    by_cases hcr : cc = r
    case neg =>
      have hne : (cc != r) = true := by simpa using hcr
      rw [if_neg (fun h => hcr h.1), Int.add_zero] at hn1
      have hle2 : Hid (F (x + 1) ≤ nv) := by rw [hn1]; exact hlx
      replace hn1 := Lib.hid hn1
      go_wp2_with fail
      refine (cp.out _).mono ?_
      rintro e w1 ⟨rfl, rfl⟩
      go_wp2_with fail
      go_quiet (((go_at_call 95; exact qd (clx.out _))))
      have hB2 := Lib.hid (hB.out.trans ((below_drewN (Below.refl wo.heap.size wo) nq).mono hBs))
      go_wp2_with fail
      exact ⟨⟨x + 1, by omega, by go_num, by rw [hn1.out], hle2, hB2⟩, by simp [intOf]; omega⟩
    have hne : (cc != r) = false := by simpa using hcr
    have hcr2 := Lib.hid hcr
    go_wp2_with fail
    refine (cp.out _).mono ?_
    rintro e w1 ⟨rfl, rfl⟩
    go_wp2_with fail
    go_quiet (((go_at_call 95; exact qd (clx.out _))))
    have hbq := below_drewN (Below.refl wo.heap.size wo) nq
    obtain ⟨wq, hwq⟩ : ∃ wq, wo.drewN nq = wq := ⟨_, rfl⟩
    rw [hwq] at hbq ⊢
    have hBq := hB.out.trans (hbq.mono hBs)
    have htq := Lib.hid (htk.out x hlt wq (hC.out.bel hBq))
    have hBqs := hBq.size
    replace hBq := Lib.hid hBq
    clear hwq hbq
    go_wp2_with fail
    refine htq.out.mono ?_
    rintro e w3 ⟨hres, hb3⟩
    have hB3 := Lib.hid (hBq.out.trans (hb3.mono hBqs))
    rcases hres with ⟨ht, g, c2, rfl, ho⟩ | ⟨ht, g, c2, rfl⟩
    · rw [if_pos ⟨hcr2.out, ht⟩] at hn1
      have hUb := hFx ht
      have ho3 := Lib.hid ho.row
      have hR3 := Lib.hid (hR.out.bel hB3.out)
      obtain ⟨U, hU⟩ : ∃ U, wayI W rows (takeI cols (x : Nat)) = U := ⟨_, rfl⟩
      have hcall := hix.out ht
      rw [hU] at hn1 hcall hUb
      have hw1 : IntKind.i64.wrap (nv - V - U) = nv - V - U := IntWalk.i64_in _ ⟨by omega, by omega⟩
      replace hU := Lib.hid hU
      have hn2 := Lib.hid hn1
      replace hcall := Lib.hid hcall
      clear ho hb3 hix htq hn1 hFx
      by_cases hgo : nv - V < U
      · have hans : Hid (nv < F (x + 1)) := Lib.hid (by rw [hn2.out]; omega)
        by_cases hc1 : cap = 1
        · have hk0 : Hid (k = 0) := Lib.hid (by omega)
          have hcm1 : Hid (k ≤ cap - 1) := Lib.hid (by omega)
          have hc1' : (cap = 1) = True := eq_true hc1
          clear hc1
          go_wp2_with fail
          refine (hcall.out _ _ g c2 w3 (row_tail hR3.out rfl _ (.inl hk0.out)) ho3.out (by first | exact hcm1.out | (have := hk0.out; omega))).mono ?_
          rintro e w4 ⟨rfl, hb4⟩
          have hB4 := Lib.hid (hB3.out.trans (hb4.mono hB3.out.size))
          clear hb4
          go_wp2_with fail
          refine bodyPost_ret (v := .tuple #[.int .i64 x, .int .i64 (nv - V)]) (by simp [results, Try.results76, go_sem]) rfl ?_
          exact ⟨⟨x, by rw [hV.out], by rw [hP.out]; exact hlt, by rw [hV.out]; exact hlx, hans.out⟩, hB4.out⟩
        · have hc2 : ¬ (cap : Nat) = 1 := hc1
          go_wp2_with fail
          refine (hcall.out _ _ g c2 w3 (row_tail hR3.out rfl _ (.inr rfl)) ho3.out (by omega)).mono ?_
          rintro e w4 ⟨rfl, hb4⟩
          have hB4 := Lib.hid (hB3.out.trans (hb4.mono hB3.out.size))
          clear hb4
          go_wp2_with fail
          refine bodyPost_ret (v := .tuple #[.int .i64 x, .int .i64 (nv - V)]) (by simp [results, Try.results76, go_sem]) rfl ?_
          exact ⟨⟨x, by rw [hV.out], by rw [hP.out]; exact hlt, by rw [hV.out]; exact hlx, hans.out⟩, hB4.out⟩
      · have hle2 : Hid (F (x + 1) ≤ nv) := Lib.hid (by rw [hn2.out]; omega)
        have hee : Hid (nv - V - U = nv - F (x + 1)) := Lib.hid (by rw [hn2.out]; omega)
        by_cases hc1 : cap = 1
        · have hk0 : Hid (k = 0) := Lib.hid (by omega)
          have hcm1 : Hid (k ≤ cap - 1) := Lib.hid (by omega)
          have hc1' : (cap = 1) = True := eq_true hc1
          clear hc1
          go_wp2_with fail
          refine (hcall.out _ _ g c2 w3 (row_tail hR3.out rfl _ (.inl hk0.out)) ho3.out (by first | exact hcm1.out | (have := hk0.out; omega))).mono ?_
          rintro e w4 ⟨rfl, hb4⟩
          have hB4 := Lib.hid (hB3.out.trans (hb4.mono hB3.out.size))
          clear hb4
          go_wp2_with fail
          exact ⟨⟨x + 1, by omega, by go_num, by rw [← hee.out], hle2, hB4⟩, by simp [intOf]; omega⟩
        · have hc2 : ¬ (cap : Nat) = 1 := hc1
          go_wp2_with fail
          refine (hcall.out _ _ g c2 w3 (row_tail hR3.out rfl _ (.inr rfl)) ho3.out (by omega)).mono ?_
          rintro e w4 ⟨rfl, hb4⟩
          have hB4 := Lib.hid (hB3.out.trans (hb4.mono hB3.out.size))
          clear hb4
          go_wp2_with fail
          exact ⟨⟨x + 1, by omega, by go_num, by rw [← hee.out], hle2, hB4⟩, by simp [intOf]; omega⟩
    · rw [if_neg (fun h => by rw [h.2] at ht; cases ht), Int.add_zero] at hn1
      have hle2 : Hid (F (x + 1) ≤ nv) := by rw [hn1]; exact hlx
      replace hn1 := Lib.hid hn1
      clear hb3 hix htq
      go_wp2_with fail
      exact ⟨⟨x + 1, by omega, by go_num, by rw [hn1.out], hle2, hB3⟩, by simp [intOf]; omega⟩
/-- The middle of ImageNth's walk: the result's box, the image's box, its rows so far. -/
structure Gm (w wr : World) (W k8 g c q B8 : Nat) (xs : List Int) : Prop where
  r0 : wr.cell? ⟨w.heap.size, 0, none⟩ = some (.int .i64 0)
  r1 : wr.cell? ⟨w.heap.size, 1, none⟩ = some (.slice none 0 0)
  rf : ∀ o, wr.frozen? ⟨w.heap.size, o, none⟩ = false
  i0 : wr.cell? ⟨k8, 0, none⟩ = some (.int .i64 W)
  i1 : wr.cell? ⟨k8, 1, none⟩ = some (.slice (some ⟨g, 0, none⟩) q c)
  jf : ∀ o, wr.frozen? ⟨k8, o, none⟩ = false
  own : OwnI wr B8 (some ⟨g, 0, none⟩) q c xs
  bel : Below w.heap.size w wr
  d1 : w.heap.size < B8 ∧ B8 ≤ k8 ∧ g ≠ k8
variable {w wr w1 : World} {W k8 g c q B8 : Nat} {xs : List Int}
theorem Gm.move (h : Gm w wr W k8 g c q B8 xs) (hb : Below wr.heap.size wr w1) : Gm w w1 W k8 g c q B8 xs :=
  ⟨kept hb (block_lt h.r0) h.r0, kept hb (block_lt h.r1) h.r1, fun o => (hb.frozen (p := ⟨w.heap.size, o, none⟩) (show w.heap.size < _ from block_lt h.r0)).trans (h.rf o), kept hb (block_lt h.i0) h.i0, kept hb (block_lt h.i1) h.i1,
   fun o => (hb.frozen (p := ⟨k8, o, none⟩) (show k8 < _ from block_lt h.i0)).trans (h.jf o), h.own.bel hb, h.bel.trans (hb.mono h.bel.size), h.d1⟩
/-- One row more. -/
theorem Gm.app (h : Gm w wr W k8 g c q B8 xs) {o : Obj} {g' c' : Nat} {x : Int} (hown : w1.ownsRow B8 3 1 (.slice (some ⟨g', 0, none⟩) (q + 1) c') (q + 1) ((xs ++ [x]).map (Value.int .i64))) (hg : (wr.alloc o).grownBy w1 (some g)) (hl : g' = g ∨ g' = wr.heap.size + 1) :
    w1.cell? ⟨k8, 1, none⟩ = some (.slice (some ⟨g, 0, none⟩) q c) ∧ w1.frozen? ⟨k8, 1, none⟩ = false ∧ Gm w (w1.setCell ⟨k8, 1, none⟩ (.slice (some ⟨g', 0, none⟩) (q + 1) c')) W k8 g' c' (q + 1) B8 (xs ++ [x]) := by
  have hm := h.move ((Below.refl _ _).alloc (Nat.le_refl _) o)
  have hd := h.d1
  have hk8 : k8 < wr.heap.size := block_lt h.i0
  have hge : B8 ≤ g := (rng_own h.own _ rfl).1
  have hs : w.heap.size < wr.heap.size := block_lt h.r0
  have cell : ∀ b i v, b < wr.heap.size → b ≠ g → (wr.alloc o).cell? ⟨b, i, none⟩ = some v → w1.cell? ⟨b, i, none⟩ = some v := fun b i v h1 h2 h3 => hg.cell h3 (by simp; exact h2)
  have froz : ∀ b i, b < wr.heap.size → b ≠ g → (wr.alloc o).frozen? ⟨b, i, none⟩ = false → w1.frozen? ⟨b, i, none⟩ = false := fun b i h1 h2 h3 => (World.frozen?_of_block (a := ⟨b, i, none⟩) (hg.block b (by simp; omega) (by simp; exact h2))).trans h3
  have hne : g' ≠ k8 := by omega
  have hb : Below w.heap.size w w1 := (h.bel.alloc h.bel.size o).grown hg (by simp; omega) (fun k hk => by cases hk; omega)
  refine ⟨cell _ _ _ hk8 (by omega) hm.i1, froz _ _ hk8 (by omega) (hm.jf 1), other_cell (cell _ _ _ hs (by omega) hm.r0) (by omega), other_cell (cell _ _ _ hs (by omega) hm.r1) (by omega), fun o => by rw [World.frozen?_setCell]; exact froz _ _ hs (by omega) (hm.rf o), ?_,
    World.cell?_setCell_same _ _ _ (cell _ _ _ hk8 (by omega) hm.i1), fun o => by rw [World.frozen?_setCell]; exact froz _ _ hk8 (by omega) (hm.jf o), ?_, hb.setCell (show w.heap.size ≤ k8 by omega) _, hd.1, hd.2.1, hne⟩
  · rw [World.cell?_setCell_other _ _ _ _ (by simp)]; exact cell _ _ _ hk8 (by omega) hm.i0
  · exact World.ownsRow.kept hown (grown_set (World.grownBy.refl _ _)) (.inr (fun e => by have := Option.some.inj e; simp at this; omega))
end Go.Proofs.Ytnfkafaolelkbaa

