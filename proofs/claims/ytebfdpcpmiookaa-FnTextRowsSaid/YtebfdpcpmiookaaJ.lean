/-
  The contract of the model's ImageTurn.
-/
import Derived.Test.YtebfdpcpmiookaaI
namespace Go.Proofs.Ytebfdpcpmiookaa
open Go.RowKit

theorem put_nat : ∀ i, i < 6 → ∀ c, c < 64 → ((c : Nat) : Int) ≤ pw i - 1 → putI c i false = c ∧ putI c i true = c + pw i := by decide +kernel
theorem put_bit {c b : Int} {i : Nat} (hi : i < 6) (hc : 0 ≤ c ∧ c ≤ pw i - 1) (hb : 0 ≤ b ∧ b ≤ 1) : putI c i (b == 1) = c + b * pw i := by
  have hp : pw i ≤ 64 := by have := pw_le i 6 (by omega); have e : pw 6 = 64 := by decide
                            omega
  obtain ⟨n, rfl⟩ := Int.eq_ofNat_of_zero_le hc.1
  have := put_nat i hi n (by omega) hc.2
  rcases (show b = 0 ∨ b = 1 by omega) with e | e <;> rw [e]
  · rw [Int.zero_mul, Int.add_zero]; exact this.1
  · rw [Int.one_mul]; exact this.2

theorem grown_trans {a b c : World} {row : Option Nat} (h : a.grownBy b row) (k : b.grownBy c row) : a.grownBy c row :=
  ⟨k.os.trans h.os, k.tape.trans h.tape, k.output.trans h.output, Nat.le_trans h.size k.size, fun i hi hn => (k.block i (Nat.lt_of_lt_of_le hi h.size) hn).trans (h.block i hi hn)⟩
theorem made3 {w w1 w2 : World} {WA Wb : Int} {a : Option Addr} {len cap n g : Nat} {xs : List Int} (hz : w.heap.size + 1 < w1.heap.size) (bb : Below w.heap.size w w1)
    (x0 : w1.cell? ⟨w.heap.size, 0, none⟩ = some (.int .i64 WA)) (x1 : w1.cell? ⟨w.heap.size, 1, none⟩ = some (.slice a len cap)) (y0 : w1.cell? ⟨w.heap.size + 1, 0, none⟩ = some (.int .i64 0)) (y1 : w1.cell? ⟨w.heap.size + 1, 1, none⟩ = some (.slice none 0 0)) (yf : ∀ o, w1.frozen? ⟨w.heap.size + 1, o, none⟩ = false) (h : Row w1 a len xs)
    (hb : Below w1.heap.size w1 w2) (hg : w1.heap.size ≤ g) (ho : OwnI w2 w1.heap.size (some ⟨g, 0, none⟩) n n (List.replicate n 0)) :
    Made w (w2.alloc (.cells #[.int .i64 Wb, .slice (some ⟨g, 0, none⟩) n n] 25)) g w2.heap.size WA a len cap xs Wb n := by
  have hB : Below w1.heap.size w1 (w2.alloc (.cells #[.int .i64 Wb, .slice (some ⟨g, 0, none⟩) n n] 25)) := hb.alloc hb.size _
  have hs := hb.size
  have hgl : g < w2.heap.size := by
    rcases ho.cases with ⟨e, _⟩ | ⟨g', e, _, h3⟩
    · cases e
    · simp only [Option.some.injEq, Addr.mk.injEq, and_true] at e; omega
  exact ⟨kept hB (show _ < _ by simp; omega) x0, kept hB (show _ < _ by simp; omega) x1, kept hB (by simpa using hz) y0, kept hB (by simpa using hz) y1, fun o => (hB.frozen (by simpa using hz)).trans (yf o), by go_simp, by go_simp, h.bel hB,
    (ho.mono (by omega)).bel ((Below.refl _ _).alloc (Nat.le_refl _) _), bb.trans (hB.mono (by omega)), by omega, row_far h hg, by omega, by omega, fun k hk => by simp at hk; omega⟩

set_option maxHeartbeats 1000000 in
theorem turn_spec (W : Int) (a : Option Addr) (len cap : Nat) (xs : List Int) (w : World) (h : Row w a len xs) (hm : len ≤ 9223372036854775807) :
    Calls Try.prog 19 #[.agg #[.int .i64 W, .slice a len cap]] w (Gives w (if validB W xs = true then ⟨true, len, turnL xs W.toNat len⟩ else .no)) := by
  have hl := h.1
  have H := (h.alloc (.cells #[.int .i64 W, .slice a len cap] 25)).alloc (.cells #[.int .i64 0, .slice none 0 0] 25)
  by_cases hv : validB W xs = true
  case neg =>
    rw [if_neg hv]
    have hv : validB W xs = false := by simpa using hv
    go_enter Try.func19, Try.ntmps19
    go_wp2_with fail
    refine (valid_spec _ _ _ _ xs _ H hm).mono ?_
    rintro e w1 ⟨rfl, hb⟩
    obtain ⟨hc1, hf1⟩ := bcell hb
    have bb1 : Below w.heap.size w w1 := (((Below.refl _ _).alloc (Nat.le_refl _) _).alloc (by simp) _).trans (hb.mono (by simp; omega))
    go_wp2_with fail
    refine bodyPost_ret (v := .tuple #[.agg #[.int .i64 0, .slice none 0 0], .bool false]) (by simp [results, Try.results19, go_sem, hc1]) rfl ?_
    exact ⟨⟨none, 0, rfl, own_nil _ _⟩, (bb1.setCell (by simp) _).setCell (by simp) _⟩
  rw [if_pos hv]
  have hW := validB_W hv
  have hL := validB_len hv
  obtain ⟨W, rfl⟩ := Int.eq_ofNat_of_zero_le (by omega : 0 ≤ W)
  rw [Int.toNat_natCast]
  have hrow : Hid (∀ i, i < len → 0 ≤ xs.getD i 0 ∧ xs.getD i 0 ≤ pw W - 1 ∧ xs.getD i 0 ≤ 63) := fun i hi => validB_row hv (by omega)
  go_enter Try.func19, Try.ntmps19
  go_wp2_with fail
  refine (valid_spec _ _ _ _ xs _ H hm).mono ?_
  rintro e w1 ⟨rfl, hb⟩
  have bb1 : Below w.heap.size w w1 := (((Below.refl _ _).alloc (Nat.le_refl _) _).alloc (by simp) _).trans (hb.mono (by simp; omega))
  have hz : w.heap.size + 1 < w1.heap.size := by have := hb.size; simp at this; omega
  have H1 := H.bel hb
  have x0 : w1.cell? ⟨w.heap.size, 0, none⟩ = some (.int .i64 W) := by rw [(bcell hb).1 _ _ (by simp; omega)]; go_simp
  have x1 : w1.cell? ⟨w.heap.size, 1, none⟩ = some (.slice a len cap) := by rw [(bcell hb).1 _ _ (by simp; omega)]; go_simp
  have y0 : w1.cell? ⟨w.heap.size + 1, 0, none⟩ = some (.int .i64 0) := by rw [(bcell hb).1 _ _ (by simp)]; go_simp
  have y1 : w1.cell? ⟨w.heap.size + 1, 1, none⟩ = some (.slice none 0 0) := by rw [(bcell hb).1 _ _ (by simp)]; go_simp
  have yf : ∀ o, w1.frozen? ⟨w.heap.size + 1, o, none⟩ = false := fun o => by rw [(bcell hb).2 _ _ (by simp)]; go_simp
  clear hb H h
  go_wp2_with fail
  refine (blank_spec len W _ (by omega)).mono ?_
  rintro e w2 ⟨⟨g, rfl, hg, ho⟩, hb2⟩
  have M := made3 (Wb := len) hz bb1 x0 x1 y0 y1 yf H1 hb2 hg ho
  clear x0 x1 y0 y1 yf H1 bb1 hz hb2 hg ho
  go_wp2_with fail
  generalize w2.alloc (.cells #[.int .i64 len, .slice (some ⟨g, 0, none⟩) W W] 25) = W0 at M ⊢
  generalize w2.heap.size = k2 at M ⊢
  have mx0 := M.x0
  have mx1 := M.x1
  go_loopw [5] (fun q wr => ∃ k : Nat, k ≤ len ∧ q = .int .i64 k ∧ W0.grownBy wr (some g) ∧ OwnI wr (w.heap.size + 2) (some ⟨g, 0, none⟩) W W (turnL xs W k)) (fun q _ => len - (intOf q).toNat)
  case atStart => exact ⟨0, Nat.zero_le _, rfl, World.grownBy.refl _ _, by rw [turn_zero]; exact M.own⟩
  case round =>
    obtain ⟨k, hk, rfl, hgr, hown⟩ := hrel
    have hown := Lib.hid hown
    obtain ⟨wo, rfl⟩ : ∃ wo : World, wo = wr := ⟨_, rfl⟩
    have v1 := hgr.cell mx1 (by have := M.hg; simp; omega)
    by_cases hlt : k < len
    · obtain ⟨b, off, rfl, hck⟩ := row_at M.row hlt
      have hbg := M.far b off rfl (by omega)
      have hr := hrow.out k hlt
      generalize hx : xs.getD k 0 = x at hck hr
      have hx := Lib.hid hx
      go_wp2_with fail
      go_loopw [6] (fun q wr => ∃ j : Nat, j ≤ W ∧ q = .int .i64 j ∧ W0.grownBy wr (some g) ∧ OwnI wr (w.heap.size + 2) (some ⟨g, 0, none⟩) W W (colsL xs W k j)) (fun q _ => W - (intOf q).toNat)
      case atStart => exact ⟨0, Nat.zero_le _, rfl, hgr, by rw [cols_zero]; exact hown.out⟩
      case round =>
        obtain ⟨j, hj, rfl, hgr2, hown2⟩ := hrel
        have n0 := hgr2.cell mx0 (by have := M.hg; simp; omega)
        by_cases hlj : j < W
        · have hcb := col_bd xs j k
          have hpk : pw k ≤ 64 := by have := pw_le k 6 (by omega); have e : pw 6 = 64 := by decide
                                     omega
          have hbi := bit_01 x j
          have eput := put_bit (c := colI xs j k) (b := bitI x j) (i := k) (by omega) hcb hbi
          have hs := hown2.bel ((Below.refl _ _).drew)
          obtain ⟨W2, hW2⟩ : ∃ W2, wr.drew = W2 := ⟨_, rfl⟩
          rw [hW2] at hs
          have hgr3 : W0.grownBy W2 (some g) := by rw [← hW2]; exact ⟨hgr2.os, hgr2.tape, hgr2.output, hgr2.size, hgr2.block⟩
          have q0 := hgr3.cell M.b0 (by simpa using M.ne)
          have q1 := hgr3.cell M.b1 (by simpa using M.ne)
          have q2 := hgr3.cell mx1 (by have := M.hg; simp; omega)
          have q3 := hgr3.cell hck (by simpa using hbg)
          have hs := Lib.hid hs
          have hgr3 := Lib.hid hgr3
          have eput := Lib.hid eput
          go_wp2_with fail
          refine region_tail 11 (by kernel_rfl) (by kernel_rfl) W2 hW2 ?_
          simp only [List.take_succ_cons, List.take_zero, List.drop_succ_cons, List.drop_zero]
          clear hW2 hgr hgr2 hown2 v1 n0
          repeat (first | still_step | still_call (st (bit_any x j _ hr.1 (by omega) (by omega))))
          refine wpStill_nil ?_
          go_wp2_with fail
          refine (put_spec len _ g W W (colsL xs W k j) j k _ _ hs.out hlj (by omega) (by rw [cols_get xs hlj]; omega) (by rw [cols_get xs hlj]; omega)).mono ?_
          rintro e w5 ⟨rfl, hgr5, ho5⟩
          rw [cols_get xs hlj, eput.out, show colI xs j k + bitI x j * pw k = colI xs j (k + 1) by simp only [colI]; rw [hx.out], cols_set xs hlj] at ho5
          have hgr6 := Lib.hid (grown_trans hgr3.out hgr5)
          have ho6 := Lib.hid ho5
          clear hgr5 ho5
          go_wp2_with fail
          exact ⟨⟨j + 1, by omega, by go_num, hgr6.out, ho6.out⟩, by simp [intOf]; omega⟩
        · have : j = W := by omega
          subst this
          have hown2 := Lib.hid hown2
          have hgr2 := Lib.hid hgr2
          clear hgr
          go_wp2_with fail
          exact ⟨⟨k + 1, by omega, by go_num, hgr2.out, by rw [← cols_full]; exact hown2.out⟩, by simp [intOf]; omega⟩
    · have : k = len := by omega
      subst this
      have z0 := hgr.cell M.b0 (by simpa using M.ne)
      have z1 := hgr.cell M.b1 (by simpa using M.ne)
      have u0 := hgr.cell M.y0 (by have := M.hg; simp; omega)
      have u1 := hgr.cell M.y1 (by have := M.hg; simp; omega)
      have uf : ∀ o, wo.frozen? ⟨w.heap.size + 1, o, none⟩ = false := fun o => (World.frozen?_of_block (a := ⟨w.heap.size + 1, o, none⟩) (hgr.block (w.heap.size + 1) (show w.heap.size + 1 < W0.heap.size from block_lt M.y0) (by have := M.hg; simp; omega))).trans (M.yf o)
      have bb : Below w.heap.size w wo := M.bel.trans ((grown_below hgr).mono (by have := M.hg; have := M.bel.size; omega))
      have hgr := Lib.hid hgr
      go_wp2_with fail
      refine bodyPost_ret (v := .tuple #[.agg #[.int .i64 k, .slice (some ⟨g, 0, none⟩) W W], .bool true]) (by simp [results, Try.results19, go_sem, u0, u1]) rfl ?_
      refine ⟨⟨some ⟨g, 0, none⟩, W, by rw [turn_len], ?_⟩, (bb.setCell (by simp) _).setCell (by simp) _⟩
      show OwnI _ _ _ (turnL xs W k).length _ _
      rw [turn_len]
      exact ((hown.out.store (by simp) _).store (by simp) _).mono (by omega)

theorem turn_small (W : Int) (xs : List Int) (len : Nat) : (if validB W xs = true then (⟨true, len, turnL xs W.toNat len⟩ : Out) else .no).xs.length ≤ 1048576 := by
  by_cases hv : validB W xs = true
  · rw [if_pos hv]; have := validB_W hv; simp only [turn_len]; omega
  · rw [if_neg hv]; simp [Out.no]
end Go.Proofs.Ytebfdpcpmiookaa

