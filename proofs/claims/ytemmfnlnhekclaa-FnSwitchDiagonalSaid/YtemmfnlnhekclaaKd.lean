/-
  The laws' drawing of images at any number of cells, one to thirty-six.
-/
import Derived.Test.YtemmfnlnhekclaaK
namespace Go.Proofs.Ytemmfnlnhekclaa
set_option maxRecDepth 100000
open Go.RowKit

set_option maxHeartbeats 400000 in
theorem shape_c (c : Nat) (hc1 : 1 ≤ c) (hc : c ≤ 36) (r : Nat) (a : Option Addr) (len cap : Nat) (zs : List Int) (p : Nat) (w : World) (h : Rd w r a len cap zs p) (hp : p ≤ 1000) :
    Calls Try.prog 96 #[.pointer (some ⟨r, 0, none⟩), .int .i64 (c : Int)] w (Draws w r a len cap zs p 8) := by
  have hrw : r < w.heap.size := block_lt h.c0
  have far := Lib.hid h.src
  have h0 := Lib.hid (h.bel ((Below.refl _ _).alloc (Nat.le_refl _) (.cells #[.int .i64 0, .slice none 0 0] 35)))
  clear h
  go_enter Try.func96, Try.ntmps96
  go_wp2_with fail
  refine (pick_any r a len cap zs p 6 _ h0.out (by omega) (by omega)).mono ?_
  rintro e w1 ⟨v1, rfl, hv1, hv1', hr1, hg1⟩
  obtain ⟨H, hH, hH1, hH6⟩ : ∃ H : Nat, v1 = (H : Int) - 1 ∧ 1 ≤ H ∧ H ≤ 6 := ⟨(v1 + 1).toNat, by omega, by omega, by omega⟩
  subst hH
  have zb := Lib.hid (Box.grown (wr := w.alloc (.cells #[.int .i64 0, .slice none 0 0] 35)) (b := w.heap.size) (v0 := .int .i64 0) (v1 := .slice none 0 0) ⟨by simp, by simp, fun o => by simp⟩ hg1 (by omega))
  have g1 := Lib.hid (grown_trans (below_grown ((Below.refl _ _).alloc (Nat.le_refl _) _) _) hg1)
  have hr1 := Lib.hid hr1
  clear hg1
  go_wp2_with fail
  refine (pick_any r a len cap zs (p + 1) 6 _ hr1.out (by omega) (by omega)).mono ?_
  rintro e w2 ⟨v2, rfl, hv2, hv2', hr2, hg2⟩
  obtain ⟨W, hW, hW1, hW6⟩ : ∃ W : Nat, v2 = (W : Int) - 1 ∧ 1 ≤ W ∧ W ≤ 6 := ⟨(v2 + 1).toNat, by omega, by omega, by omega⟩
  subst hW
  have zb := Lib.hid (zb.out.grown hg2 (by omega))
  have g2 := Lib.hid (grown_trans g1.out hg2)
  have hr2 := Lib.hid hr2
  have zb0 := zb
  clear hg2
  go_wp2_with fail
  go_loop [5, 6] (fun o i => ∃ H W : Nat, 1 ≤ H ∧ H ≤ 6 ∧ 1 ≤ W ∧ W ≤ 6 ∧ o = .int .i64 H ∧ i = .int .i64 W) (fun o i => (intOf o).toNat + (intOf i).toNat)
  case atStart => exact ⟨H, W, hH1, hH6, hW1, hW6, by go_num, by go_num⟩
  case round =>
    obtain ⟨H, W, hH1, hH6, hW1, hW6, rfl, rfl⟩ := hrel
    have hmul : (H : Int) * (W : Int) ≤ 36 := by
      have : H * W ≤ 6 * 6 := Nat.mul_le_mul hH6 hW6
      have e : ((H * W : Nat) : Int) = (H : Int) * W := by simp
      omega
    have hmul0 : 0 ≤ (H : Int) * (W : Int) := Int.mul_nonneg (by omega) (by omega)
    have hone : (c : Int) < (H : Int) * (W : Int) → ¬ (H = 1 ∧ W = 1) := by
      rintro h ⟨rfl, rfl⟩; simp at h; omega
    by_cases hlt : (c : Int) < (H : Int) * (W : Int)
    · have hone := hone hlt
      by_cases hw : (W : Int) < (H : Int)
      · go_wp2_with fail
        go_round
        case rel => exact ⟨H - 1, W, by omega, by omega, hW1, hW6, by go_num, rfl⟩
        case measure => simp [intOf]; omega
      · go_wp2_with fail
        go_round
        case rel => exact ⟨H, W - 1, hH1, hH6, by omega, by omega, rfl, by go_num⟩
        case measure => simp [intOf]; omega
    clear hone
    go_wp2_with fail
    clear hmul hmul0 hlt
    refine (blank_spec W H _ (by omega)).mono ?_
    rintro e w3 ⟨⟨g, rfl, hg, ho⟩, hb⟩
    have zb := zb.out.bel hb
    have g3 := grown_trans g2.out (below_grown hb _)
    have hr3 := hr2.out.bel hb
    have hs2 : w.heap.size < w2.heap.size := block_lt zb0.out.c0
    have hs3 := hb.size
    have hgl := own_lt ho
    have hS : Shp w (w3.alloc (.cells #[.int .i64 W, .slice (some ⟨g, 0, none⟩) H H] 35)) r w3.heap.size g H H W a len cap zs (p + 1 + 1) (List.replicate H 0) := by
      have hb4 := (Below.refl w3.heap.size w3).alloc (Nat.le_refl _) (.cells #[.int .i64 W, .slice (some ⟨g, 0, none⟩) H H] 35)
      refine ⟨zb.bel hb4, ⟨by simp, by simp, fun o => by simp⟩, (ho.mono (by omega)).bel hb4, fun i hi => ?_, hr3.bel hb4, grown_trans g3 (below_grown hb4 _), by omega, by omega, by omega, hrw, far.out⟩
      have := pw_pos W
      rw [getD_elem (by simpa using hi)]; simp; omega
    have hS := Lib.hid hS
    clear zb g3 hr3 ho hb
    go_wp2_with fail
    go_loopw [8] (fun i wr => ∃ k : Nat, k ≤ H ∧ i = .int .i64 k ∧ ∃ xs, Shp w wr r w3.heap.size g H H W a len cap zs (p + 1 + 1 + k) xs) (fun i _ => H - (intOf i).toNat)
    case atStart => exact ⟨0, by omega, rfl, _, hS.out⟩
    case round =>
      obtain ⟨k, hk, rfl, xs, hQ⟩ := hrel
      clear hS
      by_cases hlt : k < H
      · have hD := hQ.drew
        have y0 := hQ.bo.c0
        have y1 := hQ.bo.c1
        have x0 := hD.bo.c0
        have x1 := hD.bo.c1
        have hp1 := pw_pos W
        have hp2 := pw_63 hW6
        have hD := Lib.hid hD
        clear hQ
        go_wp2_with fail
        go_region_held3 (fun W' => W'.cell? ⟨w3.heap.size, 0, none⟩ = some (.int .i64 W) ∧ W'.cell? ⟨w3.heap.size, 1, none⟩ = some (.slice (some ⟨g, 0, none⟩) H H))
          (first | exact ⟨x0, x1⟩ | exact ⟨c0, c1⟩ | exact ⟨d0, d1⟩)
          (first | (go_at_call 85; refine (power_any W _ (by omega)).mono ?_; rintro e w8 ⟨rfl, rfl⟩) | (go_at_call 52; refine (pick_any r a len cap zs _ _ _ hD.out.rd (by omega) (by omega)).mono ?_; rintro e w9 ⟨v, rfl, hv0, hv1, hr9, hg9⟩; have hS9 := hD.out.pick hr9 hg9; have c0 := hS9.bo.c0; have c1 := hS9.bo.c1; have hS10 := hS9.set k v hlt hv0 (by omega); have d0 := hS10.bo.c0; have d1 := hS10.bo.c1; have og := own_cell hS9.own hlt; have of := hS9.own.frozen k; have hS10 := Lib.hid hS10; clear hS9 hr9 hg9))
        go_wp2_with fail
        exact ⟨⟨k + 1, by omega, by go_num, _, hS10.out⟩, by simp [intOf]; omega⟩
      · have : k = H := by omega
        subst this
        have y0 := hQ.bo.c0
        have y1 := hQ.bo.c1
        have z0 := hQ.zb.c0
        have z1 := hQ.zb.c1
        have zf := hQ.zb.fz
        have hQ := Lib.hid hQ
        go_wp2_with fail
        refine bodyPost_ret (v := .agg #[.int .i64 W, .slice (some ⟨g, 0, none⟩) k k]) (by simp [results, Try.results96, go_sem, z0, z1]) rfl ?_
        have S := hQ.out
        have n1 := S.hr
        have n2 := S.hg
        refine ⟨W, k, xs, g, k, _, rfl, ((S.own.store (by simp) _).store (by simp) _).mono (by omega), ⟨hW1, hW6, hH1, hH6, S.own.len, S.row⟩, ((S.rd.apart (grown_set (World.grownBy.refl _ _)) (by omega) (fun b off e hl => by have := S.far b off e hl; omega)).apart (grown_set (World.grownBy.refl _ _)) (by omega) (fun b off e hl => by have := S.far b off e hl; omega)), by omega, grown_then S.gr (((Below.refl _ _).setCell (by simp) _).setCell (by simp) _)⟩
set_option maxHeartbeats 800000 in
theorem nested_c (c : Nat) (hc1 : 1 ≤ c) (hc : c ≤ 36) (r : Nat) (a : Option Addr) (len cap : Nat) (zs : List Int) (p : Nat) (w : World) (h : Rd w r a len cap zs p) (hp : p ≤ 900) :
    Calls Try.prog 95 #[.pointer (some ⟨r, 0, none⟩), .int .i64 (c : Int)] w (Draws w r a len cap zs p 9) := by
  have hrw : r < w.heap.size := block_lt h.c0
  have far := Lib.hid h.src
  have h0 := Lib.hid (h.bel ((Below.refl _ _).alloc (Nat.le_refl _) (.cells #[.int .i64 0, .slice none 0 0] 35)))
  clear h
  go_enter Try.func95, Try.ntmps95
  go_wp2_with fail
  refine (shape_c c hc1 hc r a len cap zs p _ h0.out (by omega)).mono ?_
  rintro e w1 ⟨W, H, xs, g, cg, p1, rfl, ho, hI, hr1, hp1, hg1⟩
  have hW1 := hI.w1
  have hW6 := hI.w6
  have hH6 := hI.l6
  have zb := Lib.hid (Box.grown (wr := w.alloc (.cells #[.int .i64 0, .slice none 0 0] 35)) (b := w.heap.size) (v0 := .int .i64 0) (v1 := .slice none 0 0) ⟨by simp, by simp, fun o => by simp⟩ hg1 (by omega))
  have g1 := Lib.hid (grown_trans (below_grown ((Below.refl _ _).alloc (Nat.le_refl _) _) _) hg1)
  have hr1 := Lib.hid hr1
  have hI := Lib.hid hI
  have ho := Lib.hid ho
  clear hg1
  go_wp2_with fail
  have hs1 : w.heap.size < w1.heap.size := block_lt zb.out.c0
  refine (pick_any r a len cap zs p1 W _ (hr1.out.bel ((Below.refl _ _).alloc (Nat.le_refl _) _)) (by omega) (by omega)).mono ?_
  rintro e w2 ⟨v, rfl, hv0, hv1, hr2, hg2⟩
  obtain ⟨s, rfl⟩ := Int.eq_ofNat_of_zero_le hv0
  have hS : Shp w w2 r w1.heap.size g H cg W a len cap zs (p1 + 1) xs := by
    have hb4 := (Below.refl w1.heap.size w1).alloc (Nat.le_refl _) (.cells #[.int .i64 W, .slice (some ⟨g, 0, none⟩) H cg] 35)
    have hS0 : Shp w (w1.alloc (.cells #[.int .i64 W, .slice (some ⟨g, 0, none⟩) H cg] 35)) r w1.heap.size g H cg W a len cap zs p1 xs := by
      have hgl := own_lt ho.out
      have hgg := ho.out.ge
      refine ⟨zb.out.bel hb4, ⟨by simp, by simp, fun o => by simp⟩, (ho.out.mono (by simp)).bel hb4, hI.out.row, hr1.out.bel hb4, grown_trans g1.out (below_grown hb4 _), by omega, by omega, by simp at hgg; omega, hrw, far.out⟩
    exact hS0.pick hr2 hg2
  have y0 := hS.bo.c0
  have y1 := hS.bo.c1
  have hS := Lib.hid hS
  clear zb hr2 ho hg2 hr1
  go_wp2_with fail
  go_loopw [7] (fun i wr => ∃ k : Nat, k ≤ H ∧ i = .int .i64 k ∧ ∃ xs, Shp w wr r w1.heap.size g H cg W a len cap zs (p1 + 1) xs) (fun i _ => H - (intOf i).toNat)
  case atStart => exact ⟨0, by omega, rfl, _, hS.out⟩
  case round =>
    obtain ⟨k, hk, rfl, xs, hQ⟩ := hrel
    clear hS y0 y1
    have y0 := hQ.bo.c0
    have y1 := hQ.bo.c1
    by_cases hlt : k < H
    · have hc := own_cell hQ.own hlt
      have hf := hQ.own.frozen k
      have hx := hQ.row k hlt
      have hp := pw_63 hW6
      have hcn := cnt_bd (xs.getD k 0) 6
      have h2 := hQ.set k 0 hlt (by omega) (by have := pw_pos W; omega)
      generalize xs.getD k 0 = x at hc hx hcn
      have hQ := Lib.hid hQ
      have h2 := Lib.hid h2
      go_wp2_with fail
      refine (count_any x _ (by omega) (by omega)).mono ?_
      rintro e w' ⟨rfl, rfl⟩
      obtain ⟨N, hN⟩ := Int.eq_ofNat_of_zero_le hcn.1
      rw [hN]
      have hN6 : N ≤ 6 := by omega
      clear hN hcn hx
      have y0 := h2.out.bo.c0
      have y1 := h2.out.bo.c1
      go_wp2_with fail
      go_loopw [9] (fun j wr => ∃ m : Nat, m ≤ N ∧ j = .int .i64 m ∧ ∃ xs, Shp w wr r w1.heap.size g H cg W a len cap zs (p1 + 1) xs) (fun i _ => N - (intOf i).toNat)
      case atStart => exact ⟨0, by omega, rfl, _, h2.out⟩
      case round =>
        obtain ⟨m, hm, rfl, xs', hR⟩ := hrel
        clear h2 hQ y0 y1 hc hf
        have y0 := hR.bo.c0
        have y1 := hR.bo.c1
        by_cases hlm : m < N
        · obtain ⟨W2, hW2⟩ : ∃ W2, wr.drew = W2 := ⟨_, rfl⟩
          have hD := hR.drew
          rw [hW2] at hD
          have x0 := hD.bo.c0
          have x1 := hD.bo.c1
          have q1 : ((m : Int) + (s : Int)).tmod (W : Int) = (((m + s) % W : Nat) : Int) := by rw [Int.tmod_eq_emod_of_nonneg (by omega)]; rfl
          have q2 : (m + s) % W < W := Nat.mod_lt _ (by omega)
          have q3 : ((W : Int) == 0) = false := by simp; omega
          have q4 : IntKind.i64.wrap ((m : Int) + (s : Int)) = (m : Int) + (s : Int) := IntWalk.i64_in _ ⟨by omega, by omega⟩
          have q5 : IntKind.i64.wrap (((m + s) % W : Nat) : Int) = (((m + s) % W : Nat) : Int) := IntWalk.i64_in _ ⟨by omega, by omega⟩
          have q6 : ¬ W = 0 := by omega
          have hrow := hD.row k hlt
          have hp' := pw_63 hW6
          have hin := putin hW6 q2 hrow.1 hrow.2
          have hR := Lib.hid hR
          have hD := Lib.hid hD
          generalize (m + s) % W = u at *
          go_wp2_with fail
          refine region_tail 8 (by kernel_rfl) (by kernel_rfl) W2 hW2 ?_
          simp only [List.take_succ_cons, List.take_zero, List.drop_succ_cons, List.drop_zero]
          clear hW2
          repeat still_step
          refine wpStill_nil ?_
          go_wp2_with fail
          refine (put_spec W (w.heap.size + 1) g H cg xs' k u true _ hD.out.own hlt (by omega) hrow.1 (by omega)).mono ?_
          rintro e w5 ⟨rfl, hg5, ho5⟩
          have hn := Lib.hid (hD.out.put hg5 ho5 (set_range hD.out.own.len hD.out.row hin))
          go_wp2_with fail
          exact ⟨⟨m + 1, by omega, by go_num, _, hn.out⟩, by simp [intOf]; omega⟩
        · have : m = N := by omega
          subst this
          have hR := Lib.hid hR
          go_wp2_with fail
          exact ⟨⟨k + 1, by omega, by go_num, _, hR.out⟩, by simp [intOf]; omega⟩
    · have : k = H := by omega
      subst this
      have z0 := hQ.zb.c0
      have z1 := hQ.zb.c1
      have zf := hQ.zb.fz
      have hQ := Lib.hid hQ
      go_wp2_with fail
      refine bodyPost_ret (v := .agg #[.int .i64 W, .slice (some ⟨g, 0, none⟩) k cg]) (by simp [results, Try.results95, go_sem, z0, z1]) rfl ?_
      have S := hQ.out
      have n1 := S.hr
      have n2 := S.hg
      refine ⟨W, k, xs, g, cg, _, rfl, ((S.own.store (by simp) _).store (by simp) _).mono (by omega), ⟨hW1, hW6, hI.out.l1, hI.out.l6, S.own.len, S.row⟩, ((S.rd.apart (grown_set (World.grownBy.refl _ _)) (by omega) (fun b off e hl => by have := S.far b off e hl; omega)).apart (grown_set (World.grownBy.refl _ _)) (by omega) (fun b off e hl => by have := S.far b off e hl; omega)), by omega, grown_then S.gr (((Below.refl _ _).setCell (by simp) _).setCell (by simp) _)⟩
set_option maxHeartbeats 400000 in
theorem image_c (c : Nat) (hc1 : 1 ≤ c) (hc : c ≤ 36) (r : Nat) (a : Option Addr) (len cap : Nat) (zs : List Int) (p : Nat) (w : World) (h : Rd w r a len cap zs p) (hp : p ≤ 800) :
    Calls Try.prog 84 #[.pointer (some ⟨r, 0, none⟩), .int .i64 (c : Int)] w (Draws w r a len cap zs p 10) := by
  have hrw : r < w.heap.size := block_lt h.c0
  have far := Lib.hid h.src
  have h0 := Lib.hid (h.bel ((Below.refl _ _).alloc (Nat.le_refl _) (.cells #[.int .i64 0, .slice none 0 0] 35)))
  clear h
  go_enter Try.func84, Try.ntmps84
  go_wp2_with fail
  refine (pick_any r a len cap zs p 4 _ h0.out (by omega) (by omega)).mono ?_
  rintro e w1 ⟨v, rfl, hv0, hv1, hr1, hg1⟩
  have zb := Lib.hid (Box.grown (wr := w.alloc (.cells #[.int .i64 0, .slice none 0 0] 35)) (b := w.heap.size) (v0 := .int .i64 0) (v1 := .slice none 0 0) ⟨by simp, by simp, fun o => by simp⟩ hg1 (by omega))
  have g1 := Lib.hid (grown_trans (below_grown ((Below.refl _ _).alloc (Nat.le_refl _) _) _) hg1)
  have hr1 := Lib.hid hr1
  have hs1 : w.heap.size < w1.heap.size := block_lt zb.out.c0
  clear hg1
  by_cases hv : v = 0
  · subst hv
    go_wp2_with fail
    refine (nested_c c hc1 hc r a len cap zs (p + 1) w1 hr1.out (by omega)).mono ?_
    rintro e w2 ⟨W, H, xs, g, cg, p2, rfl, ho, hI, hr2, hp2, hg2⟩
    have zb := zb.out.grown hg2 (by omega)
    have g2 := Lib.hid (grown_trans g1.out hg2)
    have z0 := zb.c0
    have z1 := zb.c1
    have zf := zb.fz
    have hgg := ho.ge
    have ho := Lib.hid ho
    have hI := Lib.hid hI
    have hr2 := Lib.hid hr2
    clear zb hg2 hr1
    go_wp2_with fail
    refine bodyPost_ret (v := .agg #[.int .i64 W, .slice (some ⟨g, 0, none⟩) H cg]) (by simp [results, Try.results84, go_sem, z0, z1]) rfl ?_
    exact ⟨W, H, xs, g, cg, p2, rfl, ((ho.out.store (show w.heap.size < _ by omega) _).store (show w.heap.size < _ by omega) _).mono (by omega), hI.out, ((hr2.out.apart (grown_set (World.grownBy.refl _ _)) (by omega) (fun b off e hl => by have := far.out b off e hl; omega)).apart (grown_set (World.grownBy.refl _ _)) (by omega) (fun b off e hl => by have := far.out b off e hl; omega)), by omega, grown_then g2.out (((Below.refl _ _).setCell (by simp) _).setCell (by simp) _)⟩
  · go_wp2_with fail
    refine (shape_c c hc1 hc r a len cap zs (p + 1) w1 hr1.out (by omega)).mono ?_
    rintro e w2 ⟨W, H, xs, g, cg, p2, rfl, ho, hI, hr2, hp2, hg2⟩
    have zb := zb.out.grown hg2 (by omega)
    have g2 := Lib.hid (grown_trans g1.out hg2)
    have z0 := zb.c0
    have z1 := zb.c1
    have zf := zb.fz
    have hgg := ho.ge
    have ho := Lib.hid ho
    have hI := Lib.hid hI
    have hr2 := Lib.hid hr2
    clear zb hg2 hr1
    go_wp2_with fail
    refine bodyPost_ret (v := .agg #[.int .i64 W, .slice (some ⟨g, 0, none⟩) H cg]) (by simp [results, Try.results84, go_sem, z0, z1]) rfl ?_
    exact ⟨W, H, xs, g, cg, p2, rfl, ((ho.out.store (show w.heap.size < _ by omega) _).store (show w.heap.size < _ by omega) _).mono (by omega), hI.out, ((hr2.out.apart (grown_set (World.grownBy.refl _ _)) (by omega) (fun b off e hl => by have := far.out b off e hl; omega)).apart (grown_set (World.grownBy.refl _ _)) (by omega) (fun b off e hl => by have := far.out b off e hl; omega)), by omega, grown_then g2.out (((Below.refl _ _).setCell (by simp) _).setCell (by simp) _)⟩

set_option maxHeartbeats 800000 in
theorem wrong_c (c : Nat) (hc1 : 1 ≤ c) (hc : c ≤ 36) (r : Nat) (a : Option Addr) (len cap : Nat) (zs : List Int) (p : Nat) (w : World) (h : Rd w r a len cap zs p) (hp : p ≤ 700) :
    Calls Try.prog 63 #[.pointer (some ⟨r, 0, none⟩), .int .i64 (c : Int)] w (DrawsW w r a len cap zs p) := by
  have hrw : r < w.heap.size := block_lt h.c0
  have far := Lib.hid h.src
  have h0 := Lib.hid (h.bel ((Below.refl _ _).alloc (Nat.le_refl _) (.cells #[.int .i64 0, .slice none 0 0] 35)))
  clear h
  go_enter Try.func63, Try.ntmps63
  go_wp2_with fail
  refine (image_c c hc1 hc r a len cap zs p _ h0.out (by omega)).mono ?_
  rintro e w1 ⟨W, H, xs, g, cg, p1, rfl, ho, hI, hr1, hp1, hg1⟩
  have hW1 := hI.w1
  have hW6 := hI.w6
  have hH1 := hI.l1
  have hH6 := hI.l6
  have zb := Lib.hid (Box.grown (wr := w.alloc (.cells #[.int .i64 0, .slice none 0 0] 35)) (b := w.heap.size) (v0 := .int .i64 0) (v1 := .slice none 0 0) ⟨by simp, by simp, fun o => by simp⟩ hg1 (by omega))
  have g1 := Lib.hid (grown_trans (below_grown ((Below.refl _ _).alloc (Nat.le_refl _) _) _) hg1)
  have hr1 := Lib.hid hr1
  have hI := Lib.hid hI
  have hcg : H ≤ cg := own_cap ho
  have ho := Lib.hid ho
  clear hg1
  go_wp2_with fail
  have hs1 : w.heap.size < w1.heap.size := block_lt zb.out.c0
  refine (pick_any r a len cap zs p1 40 _ (hr1.out.bel ((Below.refl _ _).alloc (Nat.le_refl _) _)) (by omega) (by omega)).mono ?_
  rintro e w2 ⟨v, rfl, hv0, hv1, hr2, hg2⟩
  have hS : Shp w w2 r w1.heap.size g H cg W a len cap zs (p1 + 1) xs := by
    have hb4 := (Below.refl w1.heap.size w1).alloc (Nat.le_refl _) (.cells #[.int .i64 W, .slice (some ⟨g, 0, none⟩) H cg] 35)
    have hS0 : Shp w (w1.alloc (.cells #[.int .i64 W, .slice (some ⟨g, 0, none⟩) H cg] 35)) r w1.heap.size g H cg W a len cap zs p1 xs := by
      have hgl := own_lt ho.out
      have hgg := ho.out.ge
      refine ⟨zb.out.bel hb4, ⟨by simp, by simp, fun o => by simp⟩, (ho.out.mono (by simp)).bel hb4, hI.out.row, hr1.out.bel hb4, grown_trans g1.out (below_grown hb4 _), by omega, by omega, by simp at hgg; omega, hrw, far.out⟩
    exact hS0.pick hr2 hg2
  have y0 := hS.bo.c0
  have y1 := hS.bo.c1
  have hS := Lib.hid hS
  clear zb hr2 ho hg2 hr1
  have hc := own_cell hS.out.own (i := 0) (by omega)
  have hf := hS.out.own.frozen
  have z0 := hS.out.zb.c0
  have z1 := hS.out.zb.c1
  have zf := hS.out.zb.fz
  have yf := hS.out.bo.fz
  have hne := hS.out.ne
  have hlt := block_lt y0
  have hlg := hS.out.hg
  by_cases e0 : v = 0
  · subst e0
    obtain ⟨W2, hW2⟩ : ∃ W2, w2.drew = W2 := ⟨_, rfl⟩
    have hD := hS.out.drew
    rw [hW2] at hD
    have j0 := hD.bo.c0
    have j1 := hD.bo.c1
    have k0 := hD.zb.c0
    have k1 := hD.zb.c1
    have kf := hD.zb.fz
    have jf := hD.own.frozen
    have jc := own_cell hD.own (i := 0) (by omega)
    have hD := Lib.hid hD
    have i4 : 0 < H := by omega
    go_wp2_with fail
    refine region_tail 6 (by kernel_rfl) (by kernel_rfl) W2 hW2 ?_
    simp only [List.take_succ_cons, List.take_zero, List.drop_succ_cons, List.drop_zero]
    clear hW2
    repeat (first | still_step | still_call (st (power_any _ _ (by omega))))
    refine wpStill_nil ?_
    go_wp2_with fail
    refine bodyPost_ret (v := .agg #[.int .i64 W, .slice (some ⟨g, 0, none⟩) H cg]) (by simp [results, Try.results63, go_sem, k0, k1]) rfl ?_
    exact drawsW_mk (grown_then hD.out.gr ((Below.refl _ _).setCell (by simp; omega) _)) (hD.out.own.set 0 (pw W)) ⟨hH6, hcg⟩ (some_gt (by omega)) (hD.out.rdset (by omega)) (by omega) hD.out.hr hD.out.far
  by_cases e1 : v = 1
  · subst e1
    go_wp2_with fail
    have hb4 := (Below.refl w2.heap.size w2).alloc (Nat.le_refl _) (.cells #[.int .i64 0, .int .i64 7] 3)
    have hS1 := hS.out.pick (hS.out.rd.bel hb4) (below_grown hb4 _)
    refine (pick_any r a len cap zs _ 2 _ hS1.rd (by omega) (by omega)).mono ?_
    rintro e w3 ⟨v, rfl, hv0, hv1, hr3, hg3⟩
    have hD := hS1.pick hr3 hg3
    have j0 := hD.bo.c0
    have j1 := hD.bo.c1
    have jf := hD.bo.fz
    have k0 := hD.zb.c0
    have k1 := hD.zb.c1
    have kf := hD.zb.fz
    have x0 : w3.cell? ⟨w2.heap.size, 0, none⟩ = some (.int .i64 0) := hg3.cell (by simp) (by simp; omega)
    have x1 : w3.cell? ⟨w2.heap.size, 1, none⟩ = some (.int .i64 7) := hg3.cell (by simp) (by simp; omega)
    have hD := Lib.hid hD
    clear hS1 hr3 hg3 hb4 y0 y1 hc hf z0 z1 zf yf
    rcases (show v = 0 ∨ v = 1 by omega) with e | e <;> subst e
    · go_wp2_with fail
      refine bodyPost_ret (v := .agg #[.int .i64 0, .slice (some ⟨g, 0, none⟩) H cg]) (by simp [results, Try.results63, go_sem, k0, k1]) rfl ?_
      exact drawsW_mk (grown_then hD.out.gr ((Below.refl _ _).setCell (by simp; omega) _)) (World.ownsRow.kept hD.out.own (grown_set (g := w1.heap.size) (World.grownBy.refl _ _)) (.inr (by simp [Value.ownBlock]; omega))) ⟨hH6, hcg⟩ (some_gt (by omega)) (hD.out.rdset (by omega)) (by omega) hD.out.hr hD.out.far
    · go_wp2_with fail
      refine bodyPost_ret (v := .agg #[.int .i64 7, .slice (some ⟨g, 0, none⟩) H cg]) (by simp [results, Try.results63, go_sem, k0, k1]) rfl ?_
      exact drawsW_mk (grown_then hD.out.gr ((Below.refl _ _).setCell (by simp; omega) _)) (World.ownsRow.kept hD.out.own (grown_set (g := w1.heap.size) (World.grownBy.refl _ _)) (.inr (by simp [Value.ownBlock]; omega))) ⟨hH6, hcg⟩ (some_gt (by omega)) (hD.out.rdset (by omega)) (by omega) hD.out.hr hD.out.far
  by_cases e2 : v = 2
  · subst e2
    have q0 := World.cell?_alloc_some (o := .cells #[] 3) y0
    have q1 := World.cell?_alloc_some (o := .cells #[] 3) y1
    have zU := (hS.out.zb.store (g := w1.heap.size) (k := 1) (v := .slice (some ⟨w2.heap.size, 0, none⟩) 0 0) (by omega)).bel ((Below.refl _ _).alloc (Nat.le_refl _) (.cells #[] 3))
    have q2 := zU.c0
    have q3 := zU.c1
    have q4 := zU.fz
    go_wp2_with fail
    refine bodyPost_ret (v := .agg #[.int .i64 W, .slice (some ⟨w2.heap.size, 0, none⟩) 0 0]) (by simp [results, Try.results63, go_sem, q2, q3]) rfl ?_
    exact drawsW_mk (grown_then hS.out.gr (((Below.refl _ _).setCell (by simp; omega) _).alloc (by simp; omega) _)) (show OwnI _ _ _ 0 0 [] from own_empty (w2.setCell ⟨w1.heap.size, 1, none⟩ (.slice (some ⟨w2.heap.size, 0, none⟩) 0 0)) (w.heap.size + 1) w2.heap.size (by simp [World.setCell]) (by omega)) (by omega) (fun _ _ _ h => absurd h (by omega)) ((hS.out.rdset (by omega)).bel ((Below.refl _ _).alloc (Nat.le_refl _) _)) (by omega) hS.out.hr hS.out.far
  by_cases e3 : v = 3
  · subst e3
    go_wp2_with fail
    refine bodyPost_ret (v := .agg #[.int .i64 W, .slice (some ⟨g, 0, none⟩) H cg]) (by simp [results, Try.results63, go_sem, z0, z1]) rfl ?_
    exact drawsW_mk (grown_then hS.out.gr ((Below.refl _ _).setCell (by simp; omega) _)) (hS.out.own.set 0 (-1)) ⟨hH6, hcg⟩ (some_gt (by omega)) (hS.out.rdset (by omega)) (by omega) hS.out.hr hS.out.far
  go_wp2_with fail
  refine bodyPost_ret (v := .agg #[.int .i64 W, .slice (some ⟨g, 0, none⟩) H cg]) (by simp [results, Try.results63, go_sem, z0, z1]) rfl ?_
  exact drawsW_mk hS.out.gr hS.out.own ⟨hH6, hcg⟩ (some_gt (by omega)) hS.out.rd (by omega) hS.out.hr hS.out.far
end Go.Proofs.Ytemmfnlnhekclaa

