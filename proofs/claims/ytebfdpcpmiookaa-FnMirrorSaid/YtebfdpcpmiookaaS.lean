/-
  The contract of the model's ImageMirror.
-/
import Derived.Test.YtebfdpcpmiookaaP
namespace Go.Proofs.Ytebfdpcpmiookaa
open Go.RowKit

theorem mg_zero (xs : List Int) (W k len : Nat) : rowsL (fun i => if i < k then mirI W (xs.getD i 0) W else if i = k then mirI W (xs.getD i 0) 0 else 0) len = rowsL (fun i => if i < k then mirI W (xs.getD i 0) W else 0) len := by
  apply rows_ext
  intro i _
  by_cases h : i < k
  · rw [if_pos h, if_pos h]
  · rw [if_neg h, if_neg h]; by_cases e : i = k
    · rw [if_pos e]; rfl
    · rw [if_neg e]
theorem mg_full (xs : List Int) (W k len : Nat) : rowsL (fun i => if i < k then mirI W (xs.getD i 0) W else if i = k then mirI W (xs.getD i 0) W else 0) len = rowsL (fun i => if i < (k + 1) then mirI W (xs.getD i 0) W else 0) len := by
  apply rows_ext
  intro i _
  by_cases h : i < k
  · rw [if_pos h, if_pos (by omega)]
  · rw [if_neg h]; by_cases e : i = k
    · rw [if_pos e, if_pos (by omega)]
    · rw [if_neg e, if_neg (by omega)]
theorem mg_get (xs : List Int) {W k j len : Nat} (hk : k < len) : (rowsL (fun i => if i < k then mirI W (xs.getD i 0) W else if i = k then mirI W (xs.getD i 0) j else 0) len).getD k 0 = mirI W (xs.getD k 0) j := by
  rw [rows_get _ hk, if_neg (by omega), if_pos rfl]
theorem mg_set (xs : List Int) {W k j len : Nat} (hk : k < len) : (rowsL (fun i => if i < k then mirI W (xs.getD i 0) W else if i = k then mirI W (xs.getD i 0) j else 0) len).set k (mirI W (xs.getD k 0) (j + 1)) = rowsL (fun i => if i < k then mirI W (xs.getD i 0) W else if i = k then mirI W (xs.getD i 0) (j + 1) else 0) len := by
  refine rows_set _ _ hk ?_ ?_
  · show (if k < k then _ else if k = k then _ else _) = _
    rw [if_neg (by omega), if_pos rfl]
  · intro i _ hne
    show (if i < k then _ else if i = k then _ else _) = (if i < k then _ else if i = k then _ else _)
    rw [if_neg hne, if_neg hne]

set_option maxHeartbeats 1000000 in
theorem mirror_spec (W : Int) (a : Option Addr) (len cap : Nat) (xs : List Int) (w : World) (h : Row w a len xs) (hm : len ≤ 9223372036854775807) :
    Calls Try.prog 23 #[.agg #[.int .i64 W, .slice a len cap]] w (Gives w (if validB W xs = true then ⟨true, W, rowsL (fun i => mirI W.toNat (xs.getD i 0) W.toNat) len⟩ else .no)) := by
  have hl := h.1
  have H := (h.alloc (.cells #[.int .i64 W, .slice a len cap] 25)).alloc (.cells #[.int .i64 0, .slice none 0 0] 25)
  by_cases hv : validB W xs = true
  case neg =>
    rw [if_neg hv]
    have hv : validB W xs = false := by simpa using hv
    go_enter Try.func23, Try.ntmps23
    go_wp2_with fail
    refine (valid_spec _ _ _ _ xs _ H hm).mono ?_
    rintro e w1 ⟨rfl, hb⟩
    obtain ⟨hc1, hf1⟩ := bcell hb
    have bb1 : Below w.heap.size w w1 := (((Below.refl _ _).alloc (Nat.le_refl _) _).alloc (by simp) _).trans (hb.mono (by simp; omega))
    go_wp2_with fail
    refine bodyPost_ret (v := .tuple #[.agg #[.int .i64 0, .slice none 0 0], .bool false]) (by simp [results, Try.results23, go_sem, hc1]) rfl ?_
    exact ⟨⟨none, 0, rfl, own_nil _ _⟩, (bb1.setCell (by simp) _).setCell (by simp) _⟩
  rw [if_pos hv]
  have hW := validB_W hv
  have hL := validB_len hv
  obtain ⟨W, rfl⟩ := Int.eq_ofNat_of_zero_le (by omega : 0 ≤ W)
  rw [Int.toNat_natCast]
  have hrow : Hid (∀ i, i < len → 0 ≤ xs.getD i 0 ∧ xs.getD i 0 ≤ pw W - 1 ∧ xs.getD i 0 ≤ 63) := fun i hi => validB_row hv (by omega)
  go_enter Try.func23, Try.ntmps23
  go_wp2_with fail
  refine (valid_spec _ _ _ _ xs _ H hm).mono ?_
  rintro e w1 ⟨rfl, hb⟩
  have bb1 : Below w.heap.size w w1 := (((Below.refl _ _).alloc (Nat.le_refl _) _).alloc (by simp) _).trans (hb.mono (by simp; omega))
  have hz : w.heap.size + 1 < w1.heap.size := by have := hb.size; simp at this; omega
  have H1 := H.bel hb
  have x0 : w1.cell? ⟨w.heap.size, 0, none⟩ = some (.int .i64 W) := by rw [(bcell hb).1 _ _ (by simp; omega)]; go_simp
  have x1 : w1.cell? ⟨w.heap.size, 1, none⟩ = some (.slice a len cap) := by rw [(bcell hb).1 _ _ (by simp; omega)]; go_simp
  have y0 : w1.cell? ⟨w.heap.size + 1, 0, none⟩ = some (.int .i64 0) := by rw [(bcell hb).1 _ _ (by simp)]; go_simp
  have y1 : w1.cell? ⟨w.heap.size + 1, 1, none⟩ = some (.slice none 0 0) := by rw [(bcell hb).1 _ _ (by simp)]; go_simp
  have yf : ∀ o, w1.frozen? ⟨w.heap.size + 1, o, none⟩ = false := fun o => by rw [(bcell hb).2 _ _ (by simp)]; go_simp
  clear hb H h
  go_wp2_with fail
  refine (blank_spec W len _ (by omega)).mono ?_
  rintro e w2 ⟨⟨g, rfl, hg, ho⟩, hb2⟩
  have M := made3 (Wb := W) hz bb1 x0 x1 y0 y1 yf H1 hb2 hg ho
  clear x0 x1 y0 y1 yf H1 bb1 hz hb2 hg ho
  go_wp2_with fail
  generalize w2.alloc (.cells #[.int .i64 W, .slice (some ⟨g, 0, none⟩) len len] 25) = W0 at M ⊢
  generalize w2.heap.size = k2 at M ⊢
  have mx0 := M.x0
  have mx1 := M.x1
  go_loopw [5] (fun q wr => ∃ k : Nat, k ≤ len ∧ q = .int .i64 k ∧ W0.grownBy wr (some g) ∧ OwnI wr (w.heap.size + 2) (some ⟨g, 0, none⟩) len len (rowsL (fun i => if i < k then mirI W (xs.getD i 0) W else 0) len)) (fun q _ => len - (intOf q).toNat)
  case atStart => exact ⟨0, Nat.zero_le _, rfl, World.grownBy.refl _ _, by rw [rows_ext (g := fun _ => 0) (fun i _ => if_neg (Nat.not_lt_zero i)), rows_zero]; exact M.own⟩
  case round =>
    obtain ⟨k, hk, rfl, hgr, hown⟩ := hrel
    have hown := Lib.hid hown
    obtain ⟨wo, rfl⟩ : ∃ wo : World, wo = wr := ⟨_, rfl⟩
    have v1 := hgr.cell mx1 (by have := M.hg; simp; omega)
    by_cases hlt : k < len
    · obtain ⟨b, off, rfl, hck⟩ := row_at M.row hlt
      have hbg := M.far b off rfl (by omega)
      have hr := hrow.out k hlt
      generalize hx : xs.getD k 0 = x at hck hr
      have hx := Lib.hid hx
      go_wp2_with fail
      go_loopw [6] (fun q wr => ∃ j : Nat, j ≤ W ∧ q = .int .i64 j ∧ W0.grownBy wr (some g) ∧ OwnI wr (w.heap.size + 2) (some ⟨g, 0, none⟩) len len (rowsL (fun i => if i < k then mirI W (xs.getD i 0) W else if i = k then mirI W (xs.getD i 0) j else 0) len)) (fun q _ => W - (intOf q).toNat)
      case atStart => exact ⟨0, Nat.zero_le _, rfl, hgr, by rw [mg_zero]; exact hown.out⟩
      case round =>
        obtain ⟨j, hj, rfl, hgr2, hown2⟩ := hrel
        have n0 := hgr2.cell mx0 (by have := M.hg; simp; omega)
        by_cases hlj : j < W
        · have hput := mirput (x := x) (k := W) (j := j) (by omega) hlj hr.1 hr.2.2
          obtain ⟨c, hc⟩ : ∃ c : Nat, c = W - 1 - j := ⟨_, rfl⟩
          have hce : (W : Int) - 1 - (j : Int) = (c : Int) := by omega
          rw [← hc] at hput
          have hc6 : c ≤ 6 := by omega
          have ev1 : IntKind.i64.wrap ((W : Int) - 1) = (W : Int) - 1 := IntWalk.i64_in _ ⟨by omega, by omega⟩
          have ev2 : IntKind.i64.wrap (c : Int) = (c : Int) := IntWalk.i64_in _ ⟨by omega, by omega⟩
          clear hc
          have hs := hown2.bel ((Below.refl _ _).drew)
          obtain ⟨W2, hW2⟩ : ∃ W2, wr.drew = W2 := ⟨_, rfl⟩
          rw [hW2] at hs
          have hgr3 : W0.grownBy W2 (some g) := by rw [← hW2]; exact ⟨hgr2.os, hgr2.tape, hgr2.output, hgr2.size, hgr2.block⟩
          have q0 := hgr3.cell M.b0 (by simpa using M.ne)
          have q1 := hgr3.cell M.b1 (by simpa using M.ne)
          have q2 := hgr3.cell mx1 (by have := M.hg; simp; omega)
          have q3 := hgr3.cell hck (by simpa using hbg)
          have q4 := hgr3.cell mx0 (by have := M.hg; simp; omega)
          have hs := Lib.hid hs
          have hgr3 := Lib.hid hgr3
          have hput := Lib.hid hput
          go_wp2_with fail
          refine region_tail 15 (by kernel_rfl) (by kernel_rfl) W2 hW2 ?_
          simp only [List.take_succ_cons, List.take_zero, List.drop_succ_cons, List.drop_zero]
          clear hW2 hgr hgr2 hown2 v1 n0
          repeat (first | still_step | still_call (st (bit_any x j _ hr.1 (by omega) (by omega))))
          refine wpStill_nil ?_
          go_wp2_with fail
          refine (put_spec W _ g len len (rowsL (fun i => if i < k then mirI W (xs.getD i 0) W else if i = k then mirI W (xs.getD i 0) j else 0) len) k c _ _ hs.out hlt hc6 (by rw [mg_get xs hlt, hx.out]; exact hput.out.2.1) (by rw [mg_get xs hlt, hx.out]; exact hput.out.2.2)).mono ?_
          rintro e w5 ⟨rfl, hgr5, ho5⟩
          have e1 : putI ((rowsL (fun i => if i < k then mirI W (xs.getD i 0) W else if i = k then mirI W (xs.getD i 0) j else 0) len).getD k 0) c (bitI x j == 1) = mirI W (xs.getD k 0) (j + 1) := by rw [mg_get xs hlt, hx.out]; exact hput.out.1
          rw [e1, mg_set xs hlt] at ho5
          have hgr6 := Lib.hid (grown_trans hgr3.out hgr5)
          have ho6 := Lib.hid ho5
          clear hgr5 ho5 e1
          go_wp2_with fail
          exact ⟨⟨j + 1, by omega, by go_num, hgr6.out, ho6.out⟩, by simp [intOf]; omega⟩
        · have : j = W := by omega
          subst this
          have hown2 := Lib.hid hown2
          have hgr2 := Lib.hid hgr2
          clear hgr
          go_wp2_with fail
          exact ⟨⟨k + 1, by omega, by go_num, hgr2.out, by rw [← mg_full]; exact hown2.out⟩, by simp [intOf]; omega⟩
    · have : k = len := by omega
      subst this
      have hown := hown.out
      rw [rows_ext (g := fun i => mirI W (xs.getD i 0) W) (fun i hi => if_pos hi)] at hown
      have z0 := hgr.cell M.b0 (by simpa using M.ne)
      have z1 := hgr.cell M.b1 (by simpa using M.ne)
      have u0 := hgr.cell M.y0 (by have := M.hg; simp; omega)
      have u1 := hgr.cell M.y1 (by have := M.hg; simp; omega)
      have uf : ∀ o, wo.frozen? ⟨w.heap.size + 1, o, none⟩ = false := fun o => (World.frozen?_of_block (a := ⟨w.heap.size + 1, o, none⟩) (hgr.block (w.heap.size + 1) (show w.heap.size + 1 < W0.heap.size from block_lt M.y0) (by have := M.hg; simp; omega))).trans (M.yf o)
      have bb : Below w.heap.size w wo := M.bel.trans ((grown_below hgr).mono (by have := M.hg; have := M.bel.size; omega))
      have hgr := Lib.hid hgr
      have hown := Lib.hid hown
      go_wp2_with fail
      refine bodyPost_ret (v := .tuple #[.agg #[.int .i64 W, .slice (some ⟨g, 0, none⟩) k k], .bool true]) (by simp [results, Try.results23, go_sem, u0, u1]) rfl ?_
      refine ⟨⟨some ⟨g, 0, none⟩, k, by rw [rows_len], ?_⟩, (bb.setCell (by simp) _).setCell (by simp) _⟩
      show OwnI _ _ _ (rowsL _ k).length _ _
      rw [rows_len]
      exact ((hown.out.store (by simp) _).store (by simp) _).mono (by omega)
end Go.Proofs.Ytebfdpcpmiookaa

