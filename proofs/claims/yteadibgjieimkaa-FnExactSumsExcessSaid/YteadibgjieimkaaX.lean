/-
  The contracts of the laws' drawing functions: a nested image, an image, one that may be wrong.
-/
import Derived.Test.YteadibgjieimkaaW
namespace Go.Proofs.Yteadibgjieimkaa
set_option maxRecDepth 100000
open Go.RowKit

theorem putin_nat : ∀ W, W < 7 → ∀ j, j < W → ∀ n, n < 64 → ((n : Nat) : Int) ≤ pw W - 1 → 0 ≤ putI ((n : Nat) : Int) j true ∧ putI ((n : Nat) : Int) j true ≤ pw W - 1 := by decide +kernel
theorem putin {W j : Nat} {x : Int} (hW : W ≤ 6) (hj : j < W) (h0 : 0 ≤ x) (h1 : x ≤ pw W - 1) : 0 ≤ putI x j true ∧ putI x j true ≤ pw W - 1 := by
  have := pw_63 hW
  obtain ⟨n, rfl⟩ := Int.eq_ofNat_of_zero_le h0
  exact putin_nat W (by omega) j hj n (by omega) h1

theorem OwnI.ge {w : World} {B g len cap : Nat} {xs : List Int} (h : OwnI w B (some ⟨g, 0, none⟩) len cap xs) : B ≤ g := by
  rcases h.cases with ⟨e, _⟩ | ⟨g', e, h1, _⟩
  · cases e
  · simp only [Option.some.injEq, Addr.mk.injEq, and_true] at e; omega

set_option maxHeartbeats 800000 in
theorem nested_any (r : Nat) (a : Option Addr) (len cap : Nat) (zs : List Int) (p : Nat) (w : World) (h : Rd w r a len cap zs p) (hp : p ≤ 900) :
    Calls Try.prog 80 #[.pointer (some ⟨r, 0, none⟩), .int .i64 36] w (Draws w r a len cap zs p 9) := by
  have hrw : r < w.heap.size := block_lt h.c0
  have far := Lib.hid h.src
  have h0 := Lib.hid (h.bel ((Below.refl _ _).alloc (Nat.le_refl _) (.cells #[.int .i64 0, .slice none 0 0] 29)))
  clear h
  go_enter Try.func80, Try.ntmps80
  go_wp2_with fail
  refine (shape_any r a len cap zs p _ h0.out (by omega)).mono ?_
  rintro e w1 ⟨W, H, xs, g, cg, p1, rfl, ho, hI, hr1, hp1, hg1⟩
  have hW1 := hI.w1
  have hW6 := hI.w6
  have hH6 := hI.l6
  have zb := Lib.hid (Box.grown (wr := w.alloc (.cells #[.int .i64 0, .slice none 0 0] 29)) (b := w.heap.size) (v0 := .int .i64 0) (v1 := .slice none 0 0) ⟨by simp, by simp, fun o => by simp⟩ hg1 (by omega))
  have g1 := Lib.hid (grown_trans (below_grown ((Below.refl _ _).alloc (Nat.le_refl _) _) _) hg1)
  have hr1 := Lib.hid hr1
  have hI := Lib.hid hI
  have ho := Lib.hid ho
  clear hg1
  go_wp2_with fail
  have hs1 : w.heap.size < w1.heap.size := block_lt zb.out.c0
  refine (pick_any r a len cap zs p1 W _ (hr1.out.bel ((Below.refl _ _).alloc (Nat.le_refl _) _)) (by omega) (by omega)).mono ?_
  rintro e w2 ⟨v, rfl, hv0, hv1, hr2, hg2⟩
  obtain ⟨s, rfl⟩ := Int.eq_ofNat_of_zero_le hv0
  have hS : Shp w w2 r w1.heap.size g H cg W a len cap zs (p1 + 1) xs := by
    have hb4 := (Below.refl w1.heap.size w1).alloc (Nat.le_refl _) (.cells #[.int .i64 W, .slice (some ⟨g, 0, none⟩) H cg] 29)
    have hS0 : Shp w (w1.alloc (.cells #[.int .i64 W, .slice (some ⟨g, 0, none⟩) H cg] 29)) r w1.heap.size g H cg W a len cap zs p1 xs := by
      have hgl := own_lt ho.out
      have hgg := ho.out.ge
      refine ⟨zb.out.bel hb4, ⟨by simp, by simp, fun o => by simp⟩, (ho.out.mono (by simp)).bel hb4, hI.out.row, hr1.out.bel hb4, grown_trans g1.out (below_grown hb4 _), by omega, by omega, by simp at hgg; omega, hrw, far.out⟩
    exact hS0.pick hr2 hg2
  have y0 := hS.bo.c0
  have y1 := hS.bo.c1
  have hS := Lib.hid hS
  clear zb hr2 ho hg2 hr1
  go_wp2_with fail
  go_loopw [7] (fun i wr => ∃ k : Nat, k ≤ H ∧ i = .int .i64 k ∧ ∃ xs, Shp w wr r w1.heap.size g H cg W a len cap zs (p1 + 1) xs) (fun i _ => H - (intOf i).toNat)
  case atStart => exact ⟨0, by omega, rfl, _, hS.out⟩
  case round =>
    obtain ⟨k, hk, rfl, xs, hQ⟩ := hrel
    clear hS y0 y1
    have y0 := hQ.bo.c0
    have y1 := hQ.bo.c1
    by_cases hlt : k < H
    · have hc := own_cell hQ.own hlt
      have hf := hQ.own.frozen k
      have hx := hQ.row k hlt
      have hp := pw_63 hW6
      have hcn := cnt_bd (xs.getD k 0) 6
      have h2 := hQ.set k 0 hlt (by omega) (by have := pw_pos W; omega)
      generalize xs.getD k 0 = x at hc hx hcn
      have hQ := Lib.hid hQ
      have h2 := Lib.hid h2
      go_wp2_with fail
      refine (count_any x _ (by omega) (by omega)).mono ?_
      rintro e w' ⟨rfl, rfl⟩
      obtain ⟨N, hN⟩ := Int.eq_ofNat_of_zero_le hcn.1
      rw [hN]
      have hN6 : N ≤ 6 := by omega
      clear hN hcn hx
      have y0 := h2.out.bo.c0
      have y1 := h2.out.bo.c1
      go_wp2_with fail
      go_loopw [9] (fun j wr => ∃ m : Nat, m ≤ N ∧ j = .int .i64 m ∧ ∃ xs, Shp w wr r w1.heap.size g H cg W a len cap zs (p1 + 1) xs) (fun i _ => N - (intOf i).toNat)
      case atStart => exact ⟨0, by omega, rfl, _, h2.out⟩
      case round =>
        obtain ⟨m, hm, rfl, xs', hR⟩ := hrel
        clear h2 hQ y0 y1 hc hf
        have y0 := hR.bo.c0
        have y1 := hR.bo.c1
        by_cases hlm : m < N
        · obtain ⟨W2, hW2⟩ : ∃ W2, wr.drew = W2 := ⟨_, rfl⟩
          have hD := hR.drew
          rw [hW2] at hD
          have x0 := hD.bo.c0
          have x1 := hD.bo.c1
          have q1 : ((m : Int) + (s : Int)).tmod (W : Int) = (((m + s) % W : Nat) : Int) := by rw [Int.tmod_eq_emod_of_nonneg (by omega)]; rfl
          have q2 : (m + s) % W < W := Nat.mod_lt _ (by omega)
          have q3 : ((W : Int) == 0) = false := by simp; omega
          have q4 : IntKind.i64.wrap ((m : Int) + (s : Int)) = (m : Int) + (s : Int) := IntWalk.i64_in _ ⟨by omega, by omega⟩
          have q5 : IntKind.i64.wrap (((m + s) % W : Nat) : Int) = (((m + s) % W : Nat) : Int) := IntWalk.i64_in _ ⟨by omega, by omega⟩
          have q6 : ¬ W = 0 := by omega
          have hrow := hD.row k hlt
          have hp' := pw_63 hW6
          have hin := putin hW6 q2 hrow.1 hrow.2
          have hR := Lib.hid hR
          have hD := Lib.hid hD
          generalize (m + s) % W = u at *
          go_wp2_with fail
          refine region_tail 8 (by kernel_rfl) (by kernel_rfl) W2 hW2 ?_
          simp only [List.take_succ_cons, List.take_zero, List.drop_succ_cons, List.drop_zero]
          clear hW2
          repeat still_step
          refine wpStill_nil ?_
          go_wp2_with fail
          refine (put_spec W (w.heap.size + 1) g H cg xs' k u true _ hD.out.own hlt (by omega) hrow.1 (by omega)).mono ?_
          rintro e w5 ⟨rfl, hg5, ho5⟩
          have hn := Lib.hid (hD.out.put hg5 ho5 (set_range hD.out.own.len hD.out.row hin))
          go_wp2_with fail
          exact ⟨⟨m + 1, by omega, by go_num, _, hn.out⟩, by simp [intOf]; omega⟩
        · have : m = N := by omega
          subst this
          have hR := Lib.hid hR
          go_wp2_with fail
          exact ⟨⟨k + 1, by omega, by go_num, _, hR.out⟩, by simp [intOf]; omega⟩
    · have : k = H := by omega
      subst this
      have z0 := hQ.zb.c0
      have z1 := hQ.zb.c1
      have zf := hQ.zb.fz
      have hQ := Lib.hid hQ
      go_wp2_with fail
      refine bodyPost_ret (v := .agg #[.int .i64 W, .slice (some ⟨g, 0, none⟩) k cg]) (by simp [results, Try.results80, go_sem, z0, z1]) rfl ?_
      have S := hQ.out
      have n1 := S.hr
      have n2 := S.hg
      refine ⟨W, k, xs, g, cg, _, rfl, ((S.own.store (by simp) _).store (by simp) _).mono (by omega), ⟨hW1, hW6, hI.out.l1, hI.out.l6, S.own.len, S.row⟩, ((S.rd.apart (grown_set (World.grownBy.refl _ _)) (by omega) (fun b off e hl => by have := S.far b off e hl; omega)).apart (grown_set (World.grownBy.refl _ _)) (by omega) (fun b off e hl => by have := S.far b off e hl; omega)), by omega, grown_then S.gr (((Below.refl _ _).setCell (by simp) _).setCell (by simp) _)⟩
end Go.Proofs.Yteadibgjieimkaa

