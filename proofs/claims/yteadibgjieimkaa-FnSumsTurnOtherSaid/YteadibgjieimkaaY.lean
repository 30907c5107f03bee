/-
  The contracts of the laws' drawing functions: an image, one that may be wrong.
-/
import Derived.Test.YteadibgjieimkaaX
namespace Go.Proofs.Yteadibgjieimkaa
set_option maxRecDepth 100000
open Go.RowKit

theorem Draws.up {w0 w w' : World} {r : Nat} {a : Option Addr} {len cap : Nat} {zs : List Int} {p q m k : Nat} {e : Ending} (h : Draws w r a len cap zs p m e w') (hg : w0.grownBy w (some r)) (hp : p + m ≤ q + k) : Draws w0 r a len cap zs q k e w' := by
  obtain ⟨W, H, xs, g, cg, p1, rfl, ho, hI, hr1, hp1, hg1⟩ := h
  exact ⟨W, H, xs, g, cg, p1, rfl, ho.mono hg.size, hI, hr1, by omega, grown_trans hg hg1⟩

set_option maxHeartbeats 400000 in
theorem image_any (r : Nat) (a : Option Addr) (len cap : Nat) (zs : List Int) (p : Nat) (w : World) (h : Rd w r a len cap zs p) (hp : p ≤ 800) :
    Calls Try.prog 73 #[.pointer (some ⟨r, 0, none⟩), .int .i64 36] w (Draws w r a len cap zs p 10) := by
  have hrw : r < w.heap.size := block_lt h.c0
  have far := Lib.hid h.src
  have h0 := Lib.hid (h.bel ((Below.refl _ _).alloc (Nat.le_refl _) (.cells #[.int .i64 0, .slice none 0 0] 29)))
  clear h
  go_enter Try.func73, Try.ntmps73
  go_wp2_with fail
  refine (pick_any r a len cap zs p 4 _ h0.out (by omega) (by omega)).mono ?_
  rintro e w1 ⟨v, rfl, hv0, hv1, hr1, hg1⟩
  have zb := Lib.hid (Box.grown (wr := w.alloc (.cells #[.int .i64 0, .slice none 0 0] 29)) (b := w.heap.size) (v0 := .int .i64 0) (v1 := .slice none 0 0) ⟨by simp, by simp, fun o => by simp⟩ hg1 (by omega))
  have g1 := Lib.hid (grown_trans (below_grown ((Below.refl _ _).alloc (Nat.le_refl _) _) _) hg1)
  have hr1 := Lib.hid hr1
  have hs1 : w.heap.size < w1.heap.size := block_lt zb.out.c0
  clear hg1
  by_cases hv : v = 0
  · subst hv
    go_wp2_with fail
    refine (nested_any r a len cap zs (p + 1) w1 hr1.out (by omega)).mono ?_
    rintro e w2 ⟨W, H, xs, g, cg, p2, rfl, ho, hI, hr2, hp2, hg2⟩
    have zb := zb.out.grown hg2 (by omega)
    have g2 := Lib.hid (grown_trans g1.out hg2)
    have z0 := zb.c0
    have z1 := zb.c1
    have zf := zb.fz
    have hgg := ho.ge
    have ho := Lib.hid ho
    have hI := Lib.hid hI
    have hr2 := Lib.hid hr2
    clear zb hg2 hr1
    go_wp2_with fail
    refine bodyPost_ret (v := .agg #[.int .i64 W, .slice (some ⟨g, 0, none⟩) H cg]) (by simp [results, Try.results73, go_sem, z0, z1]) rfl ?_
    exact ⟨W, H, xs, g, cg, p2, rfl, ((ho.out.store (show w.heap.size < _ by omega) _).store (show w.heap.size < _ by omega) _).mono (by omega), hI.out, ((hr2.out.apart (grown_set (World.grownBy.refl _ _)) (by omega) (fun b off e hl => by have := far.out b off e hl; omega)).apart (grown_set (World.grownBy.refl _ _)) (by omega) (fun b off e hl => by have := far.out b off e hl; omega)), by omega, grown_then g2.out (((Below.refl _ _).setCell (by simp) _).setCell (by simp) _)⟩
  · go_wp2_with fail
    refine (shape_any r a len cap zs (p + 1) w1 hr1.out (by omega)).mono ?_
    rintro e w2 ⟨W, H, xs, g, cg, p2, rfl, ho, hI, hr2, hp2, hg2⟩
    have zb := zb.out.grown hg2 (by omega)
    have g2 := Lib.hid (grown_trans g1.out hg2)
    have z0 := zb.c0
    have z1 := zb.c1
    have zf := zb.fz
    have hgg := ho.ge
    have ho := Lib.hid ho
    have hI := Lib.hid hI
    have hr2 := Lib.hid hr2
    clear zb hg2 hr1
    go_wp2_with fail
    refine bodyPost_ret (v := .agg #[.int .i64 W, .slice (some ⟨g, 0, none⟩) H cg]) (by simp [results, Try.results73, go_sem, z0, z1]) rfl ?_
    exact ⟨W, H, xs, g, cg, p2, rfl, ((ho.out.store (show w.heap.size < _ by omega) _).store (show w.heap.size < _ by omega) _).mono (by omega), hI.out, ((hr2.out.apart (grown_set (World.grownBy.refl _ _)) (by omega) (fun b off e hl => by have := far.out b off e hl; omega)).apart (grown_set (World.grownBy.refl _ _)) (by omega) (fun b off e hl => by have := far.out b off e hl; omega)), by omega, grown_then g2.out (((Below.refl _ _).setCell (by simp) _).setCell (by simp) _)⟩

theorem own_cap {w : World} {B n c : Nat} {a : Option Addr} {xs : List Int} (h : OwnI w B a n c xs) : n ≤ c := by
  rcases h.2 with ⟨e, h0⟩ | ⟨g, cap, cur, e, _, _, h1, _⟩
  · omega
  · simp only [Value.slice.injEq] at e; omega
/-- What the laws draw: an image of at most six rows, valid or not. -/
def DrawsW (w : World) (r : Nat) (a : Option Addr) (len cap : Nat) (zs : List Int) (p : Nat) (e : Ending) (w' : World) : Prop :=
  ∃ (W : Int) (s : Option Addr) (n cg : Nat) (xs : List Int), e = .returned (.agg #[.int .i64 W, .slice s n cg]) ∧ OwnI w' (w.heap.size + 1) s n cg xs ∧ (n ≤ 6 ∧ n ≤ cg) ∧ w.grownBy w' (some r) ∧ (∀ b off, s = some ⟨b, off, none⟩ → 0 < n → w.heap.size ≤ b) ∧ ∃ p', p' ≤ p + 20 ∧ Rd w' r a len cap zs p'
theorem drawsW_mk {w V : World} {r : Nat} {a : Option Addr} {len cap p p' : Nat} {zs : List Int} {W : Int} {s : Option Addr} {n cg : Nat} {xs : List Int} {v0 v1 : Value} (hg : w.grownBy V (some r)) (hR : OwnI V (w.heap.size + 1) s n cg xs) (hn : n ≤ 6 ∧ n ≤ cg) (hne : ∀ b off, s = some ⟨b, off, none⟩ → 0 < n → w.heap.size < b) (hrd : Rd V r a len cap zs p') (hp : p' ≤ p + 20) (hr : r < w.heap.size) (far : ∀ b off, a = some ⟨b, off, none⟩ → 0 < len → b < w.heap.size) :
    DrawsW w r a len cap zs p (.returned (.agg #[.int .i64 W, .slice s n cg])) ((V.setCell ⟨w.heap.size, 0, none⟩ v0).setCell ⟨w.heap.size, 1, none⟩ v1) :=
  ⟨W, s, n, cg, xs, rfl, (hR.store (by simp) _).store (by simp) _, hn, grown_then hg (((Below.refl _ _).setCell (by simp) _).setCell (by simp) _), fun b off e hl => by have := hne b off e hl; omega, p', hp, (hrd.apart (grown_set (World.grownBy.refl _ _)) (by omega) (fun b off e hl => by have := far b off e hl; omega)).apart (grown_set (World.grownBy.refl _ _)) (by omega) (fun b off e hl => by have := far b off e hl; omega)⟩
theorem Shp.rdset {w wr : World} {r ob g H cg W q k : Nat} {v : Value} {a : Option Addr} {len cap : Nat} {zs : List Int} {p : Nat} {xs : List Int} (h : Shp w wr r ob g H cg W a len cap zs p xs) (hq : w.heap.size < q) : Rd (wr.setCell ⟨q, k, none⟩ v) r a len cap zs p :=
  h.rd.apart (grown_set (World.grownBy.refl _ _)) (by have := h.hr; omega) (fun b off e hl => by have := h.far b off e hl; omega)
theorem some_ne {g g0 n : Nat} (h : g ≠ g0) : ∀ b off, (some ⟨g, 0, none⟩ : Option Addr) = some ⟨b, off, none⟩ → 0 < n → b ≠ g0 := by
  intro b off e _
  simp only [Option.some.injEq, Addr.mk.injEq, and_true] at e
  omega
theorem some_gt {g B n : Nat} (h : B < g) : ∀ b off, (some ⟨g, 0, none⟩ : Option Addr) = some ⟨b, off, none⟩ → 0 < n → B < b := by
  intro b off e _
  simp only [Option.some.injEq, Addr.mk.injEq, and_true] at e
  omega

set_option maxHeartbeats 800000 in
theorem wrong_any (r : Nat) (a : Option Addr) (len cap : Nat) (zs : List Int) (p : Nat) (w : World) (h : Rd w r a len cap zs p) (hp : p ≤ 700) :
    Calls Try.prog 50 #[.pointer (some ⟨r, 0, none⟩), .int .i64 36] w (DrawsW w r a len cap zs p) := by
  have hrw : r < w.heap.size := block_lt h.c0
  have far := Lib.hid h.src
  have h0 := Lib.hid (h.bel ((Below.refl _ _).alloc (Nat.le_refl _) (.cells #[.int .i64 0, .slice none 0 0] 29)))
  clear h
  go_enter Try.func50, Try.ntmps50
  go_wp2_with fail
  refine (image_any r a len cap zs p _ h0.out (by omega)).mono ?_
  rintro e w1 ⟨W, H, xs, g, cg, p1, rfl, ho, hI, hr1, hp1, hg1⟩
  have hW1 := hI.w1
  have hW6 := hI.w6
  have hH1 := hI.l1
  have hH6 := hI.l6
  have zb := Lib.hid (Box.grown (wr := w.alloc (.cells #[.int .i64 0, .slice none 0 0] 29)) (b := w.heap.size) (v0 := .int .i64 0) (v1 := .slice none 0 0) ⟨by simp, by simp, fun o => by simp⟩ hg1 (by omega))
  have g1 := Lib.hid (grown_trans (below_grown ((Below.refl _ _).alloc (Nat.le_refl _) _) _) hg1)
  have hr1 := Lib.hid hr1
  have hI := Lib.hid hI
  have hcg : H ≤ cg := own_cap ho
  have ho := Lib.hid ho
  clear hg1
  go_wp2_with fail
  have hs1 : w.heap.size < w1.heap.size := block_lt zb.out.c0
  refine (pick_any r a len cap zs p1 40 _ (hr1.out.bel ((Below.refl _ _).alloc (Nat.le_refl _) _)) (by omega) (by omega)).mono ?_
  rintro e w2 ⟨v, rfl, hv0, hv1, hr2, hg2⟩
  have hS : Shp w w2 r w1.heap.size g H cg W a len cap zs (p1 + 1) xs := by
    have hb4 := (Below.refl w1.heap.size w1).alloc (Nat.le_refl _) (.cells #[.int .i64 W, .slice (some ⟨g, 0, none⟩) H cg] 29)
    have hS0 : Shp w (w1.alloc (.cells #[.int .i64 W, .slice (some ⟨g, 0, none⟩) H cg] 29)) r w1.heap.size g H cg W a len cap zs p1 xs := by
      have hgl := own_lt ho.out
      have hgg := ho.out.ge
      refine ⟨zb.out.bel hb4, ⟨by simp, by simp, fun o => by simp⟩, (ho.out.mono (by simp)).bel hb4, hI.out.row, hr1.out.bel hb4, grown_trans g1.out (below_grown hb4 _), by omega, by omega, by simp at hgg; omega, hrw, far.out⟩
    exact hS0.pick hr2 hg2
  have y0 := hS.bo.c0
  have y1 := hS.bo.c1
  have hS := Lib.hid hS
  clear zb hr2 ho hg2 hr1
  have hc := own_cell hS.out.own (i := 0) (by omega)
  have hf := hS.out.own.frozen
  have z0 := hS.out.zb.c0
  have z1 := hS.out.zb.c1
  have zf := hS.out.zb.fz
  have yf := hS.out.bo.fz
  have hne := hS.out.ne
  have hlt := block_lt y0
  have hlg := hS.out.hg
  by_cases e0 : v = 0
  · subst e0
    obtain ⟨W2, hW2⟩ : ∃ W2, w2.drew = W2 := ⟨_, rfl⟩
    have hD := hS.out.drew
    rw [hW2] at hD
    have j0 := hD.bo.c0
    have j1 := hD.bo.c1
    have k0 := hD.zb.c0
    have k1 := hD.zb.c1
    have kf := hD.zb.fz
    have jf := hD.own.frozen
    have jc := own_cell hD.own (i := 0) (by omega)
    have hD := Lib.hid hD
    have i4 : 0 < H := by omega
    go_wp2_with fail
    refine region_tail 6 (by kernel_rfl) (by kernel_rfl) W2 hW2 ?_
    simp only [List.take_succ_cons, List.take_zero, List.drop_succ_cons, List.drop_zero]
    clear hW2
    repeat (first | still_step | still_call (st (power_any _ _ (by omega))))
    refine wpStill_nil ?_
    go_wp2_with fail
    refine bodyPost_ret (v := .agg #[.int .i64 W, .slice (some ⟨g, 0, none⟩) H cg]) (by simp [results, Try.results50, go_sem, k0, k1]) rfl ?_
    exact drawsW_mk (grown_then hD.out.gr ((Below.refl _ _).setCell (by simp; omega) _)) (hD.out.own.set 0 (pw W)) ⟨hH6, hcg⟩ (some_gt (by omega)) (hD.out.rdset (by omega)) (by omega) hD.out.hr hD.out.far
  by_cases e1 : v = 1
  · subst e1
    go_wp2_with fail
    have hb4 := (Below.refl w2.heap.size w2).alloc (Nat.le_refl _) (.cells #[.int .i64 0, .int .i64 7] 3)
    have hS1 := hS.out.pick (hS.out.rd.bel hb4) (below_grown hb4 _)
    refine (pick_any r a len cap zs _ 2 _ hS1.rd (by omega) (by omega)).mono ?_
    rintro e w3 ⟨v, rfl, hv0, hv1, hr3, hg3⟩
    have hD := hS1.pick hr3 hg3
    have j0 := hD.bo.c0
    have j1 := hD.bo.c1
    have jf := hD.bo.fz
    have k0 := hD.zb.c0
    have k1 := hD.zb.c1
    have kf := hD.zb.fz
    have x0 : w3.cell? ⟨w2.heap.size, 0, none⟩ = some (.int .i64 0) := hg3.cell (by simp) (by simp; omega)
    have x1 : w3.cell? ⟨w2.heap.size, 1, none⟩ = some (.int .i64 7) := hg3.cell (by simp) (by simp; omega)
    have hD := Lib.hid hD
    clear hS1 hr3 hg3 hb4 y0 y1 hc hf z0 z1 zf yf
    rcases (show v = 0 ∨ v = 1 by omega) with e | e <;> subst e
    · go_wp2_with fail
      refine bodyPost_ret (v := .agg #[.int .i64 0, .slice (some ⟨g, 0, none⟩) H cg]) (by simp [results, Try.results50, go_sem, k0, k1]) rfl ?_
      exact drawsW_mk (grown_then hD.out.gr ((Below.refl _ _).setCell (by simp; omega) _)) (World.ownsRow.kept hD.out.own (grown_set (g := w1.heap.size) (World.grownBy.refl _ _)) (.inr (by simp [Value.ownBlock]; omega))) ⟨hH6, hcg⟩ (some_gt (by omega)) (hD.out.rdset (by omega)) (by omega) hD.out.hr hD.out.far
    · go_wp2_with fail
      refine bodyPost_ret (v := .agg #[.int .i64 7, .slice (some ⟨g, 0, none⟩) H cg]) (by simp [results, Try.results50, go_sem, k0, k1]) rfl ?_
      exact drawsW_mk (grown_then hD.out.gr ((Below.refl _ _).setCell (by simp; omega) _)) (World.ownsRow.kept hD.out.own (grown_set (g := w1.heap.size) (World.grownBy.refl _ _)) (.inr (by simp [Value.ownBlock]; omega))) ⟨hH6, hcg⟩ (some_gt (by omega)) (hD.out.rdset (by omega)) (by omega) hD.out.hr hD.out.far
  by_cases e2 : v = 2
  · subst e2
    have q0 := World.cell?_alloc_some (o := .cells #[] 3) y0
    have q1 := World.cell?_alloc_some (o := .cells #[] 3) y1
    have zU := (hS.out.zb.store (g := w1.heap.size) (k := 1) (v := .slice (some ⟨w2.heap.size, 0, none⟩) 0 0) (by omega)).bel ((Below.refl _ _).alloc (Nat.le_refl _) (.cells #[] 3))
    have q2 := zU.c0
    have q3 := zU.c1
    have q4 := zU.fz
    go_wp2_with fail
    refine bodyPost_ret (v := .agg #[.int .i64 W, .slice (some ⟨w2.heap.size, 0, none⟩) 0 0]) (by simp [results, Try.results50, go_sem, q2, q3]) rfl ?_
    exact drawsW_mk (grown_then hS.out.gr (((Below.refl _ _).setCell (by simp; omega) _).alloc (by simp; omega) _)) (show OwnI _ _ _ 0 0 [] from own_empty (w2.setCell ⟨w1.heap.size, 1, none⟩ (.slice (some ⟨w2.heap.size, 0, none⟩) 0 0)) (w.heap.size + 1) w2.heap.size (by simp [World.setCell]) (by omega)) (by omega) (fun _ _ _ h => absurd h (by omega)) ((hS.out.rdset (by omega)).bel ((Below.refl _ _).alloc (Nat.le_refl _) _)) (by omega) hS.out.hr hS.out.far
  by_cases e3 : v = 3
  · subst e3
    go_wp2_with fail
    refine bodyPost_ret (v := .agg #[.int .i64 W, .slice (some ⟨g, 0, none⟩) H cg]) (by simp [results, Try.results50, go_sem, z0, z1]) rfl ?_
    exact drawsW_mk (grown_then hS.out.gr ((Below.refl _ _).setCell (by simp; omega) _)) (hS.out.own.set 0 (-1)) ⟨hH6, hcg⟩ (some_gt (by omega)) (hS.out.rdset (by omega)) (by omega) hS.out.hr hS.out.far
  go_wp2_with fail
  refine bodyPost_ret (v := .agg #[.int .i64 W, .slice (some ⟨g, 0, none⟩) H cg]) (by simp [results, Try.results50, go_sem, z0, z1]) rfl ?_
  exact drawsW_mk hS.out.gr hS.out.own ⟨hH6, hcg⟩ (some_gt (by omega)) hS.out.rd (by omega) hS.out.hr hS.out.far
end Go.Proofs.Yteadibgjieimkaa

