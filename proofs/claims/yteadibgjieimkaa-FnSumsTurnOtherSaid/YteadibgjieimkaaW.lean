/-
  The contracts of the laws' drawing functions: a shape, a nested image, an image, one that may be wrong.
-/
import Derived.Test.YteadibgjieimkaaV
import Derived.Test.YteadibgjieimkaaE
namespace Go.Proofs.Yteadibgjieimkaa
set_option maxRecDepth 100000
open Go.RowKit

theorem cntk_nat : ∀ k, k < 8 → ∀ n, n < 64 → (((n : Nat) : Int) / pw k ≤ 0 → cntI ((n : Nat) : Int) k = cntI ((n : Nat) : Int) 6) ∧ (0 < ((n : Nat) : Int) / pw k → k < 6) ∧ ((n : Nat) : Int) / pw k / 2 = ((n : Nat) : Int) / pw (k + 1) := by decide +kernel

set_option maxHeartbeats 400000 in
theorem count_any (x : Int) (w : World) (h0 : 0 ≤ x) (h1 : x ≤ 63) :
    Calls Try.prog 85 #[.int .i64 x] w fun e w' => e = .returned (.int .i64 (cntI x 6)) ∧ w = w' := by
  obtain ⟨x, rfl⟩ := Int.eq_ofNat_of_zero_le h0
  have hall : Hid (∀ k, k < 8 → _) := fun k hk => cntk_nat k hk x (by omega)
  have H := Lib.hid hall
  clear hall
  go_enter Try.func85, Try.ntmps85
  go_wp2
  go_loop [3, 0] (fun o i => ∃ k : Nat, k ≤ 6 ∧ i = .int .i64 ((x : Int) / pw k) ∧ o = .int .i64 (cntI x k)) (fun _ i => (intOf i).toNat)
  case atStart => exact ⟨0, by omega, by simp [pw], rfl⟩
  case round =>
    obtain ⟨k, hk, rfl, rfl⟩ := hrel
    have hh := H.out.out k (by omega)
    have hc := cnt_bd x k
    have hy : 0 ≤ (x : Int) / pw k ∧ (x : Int) / pw k ≤ 63 := ⟨Int.ediv_nonneg (by omega) (by have := pw_pos k; omega), Int.le_trans (Int.ediv_le_self _ (by omega)) (by omega)⟩
    have hb := bit_01 x k
    have hbit : (x : Int) / pw k % 2 = bitI x k := rfl
    generalize (x : Int) / pw k = y at *
    by_cases hlt : 0 < y
    · have hk6 := hh.2.1 hlt
      have t1 : y.tmod 2 = bitI x k := by rw [Int.tmod_eq_emod_of_nonneg hy.1]; exact hbit
      have t2 : y.tdiv 2 = (x : Int) / pw (k + 1) := by rw [Int.tdiv_eq_ediv_of_nonneg hy.1]; exact hh.2.2
      have hz : y / 2 = (x : Int) / pw (k + 1) := hh.2.2
      clear hh hbit
      go_wp2
      go_round
      case rel => exact ⟨k + 1, by omega, by first | rfl | rw [hz], rfl⟩
      case measure => simp [intOf]; omega
    · have e := hh.1 (by omega)
      clear hh hbit
      go_wp2
      go_ret
      exact ⟨rfl, rfl⟩

theorem Rd.src {w : World} {r : Nat} {a : Option Addr} {len cap : Nat} {zs : List Int} {p : Nat} (h : Rd w r a len cap zs p) : ∀ b off, a = some ⟨b, off, none⟩ → 0 < len → b < w.heap.size := by
  intro b off e hl
  rcases h.bys with h0 | ⟨b', off', e', hc⟩
  · omega
  · rw [e] at e'
    simp only [Option.some.injEq, Addr.mk.injEq, and_true] at e'
    obtain ⟨rfl, rfl⟩ := e'
    exact block_lt (hc 0 hl).1
def Draws (w : World) (r : Nat) (a : Option Addr) (len cap : Nat) (zs : List Int) (p m : Nat) (e : Ending) (w' : World) : Prop :=
  ∃ (W n : Nat) (xs : List Int) (g cg p' : Nat), e = .returned (.agg #[.int .i64 W, .slice (some ⟨g, 0, none⟩) n cg]) ∧ OwnI w' w.heap.size (some ⟨g, 0, none⟩) n cg xs ∧ Im W n xs ∧ Rd w' r a len cap zs p' ∧ p' ≤ p + m ∧ w.grownBy w' (some r)

theorem frozen_grown {wr w1 : World} {r b : Nat} {o : Nat} {v : Value} (hg : wr.grownBy w1 (some r)) (hc : wr.cell? ⟨b, 0, none⟩ = some v) (hn : b ≠ r) : w1.frozen? ⟨b, o, none⟩ = wr.frozen? ⟨b, o, none⟩ :=
  World.frozen?_of_block (a := ⟨b, o, none⟩) (hg.block b (show b < _ from block_lt hc) (by simpa using hn))
theorem grown_then {w wr w1 : World} {row : Option Nat} (h : w.grownBy wr row) (hb : Below w.heap.size wr w1) : w.grownBy w1 row := ⟨hb.os.trans h.os, hb.tape.trans h.tape, hb.output.trans h.output, Nat.le_trans h.size hb.size, fun k hk hne => (hb.block k hk).trans (h.block k hk hne)⟩
/-- A new box of an image, as it was made. -/
structure Box (w : World) (b : Nat) (v0 v1 : Value) : Prop where
  c0 : w.cell? ⟨b, 0, none⟩ = some v0
  c1 : w.cell? ⟨b, 1, none⟩ = some v1
  fz : ∀ o, w.frozen? ⟨b, o, none⟩ = false
theorem Box.grown {wr w1 : World} {r b : Nat} {v0 v1 : Value} (h : Box wr b v0 v1) (hg : wr.grownBy w1 (some r)) (hn : b ≠ r) : Box w1 b v0 v1 :=
  ⟨hg.cell h.c0 (by simpa using hn), hg.cell h.c1 (by simpa using hn), fun o => (frozen_grown hg h.c0 hn).trans (h.fz o)⟩
theorem Box.bel {wr w1 : World} {b : Nat} {v0 v1 : Value} (h : Box wr b v0 v1) (hb : Below wr.heap.size wr w1) : Box w1 b v0 v1 :=
  ⟨kept hb (block_lt h.c0) h.c0, kept hb (block_lt h.c1) h.c1, fun o => (hb.frozen (p := ⟨b, o, none⟩) (show b < _ from block_lt h.c0)).trans (h.fz o)⟩
theorem Box.store {wr : World} {b g k : Nat} {v0 v1 v : Value} (h : Box wr b v0 v1) (hn : b ≠ g) : Box (wr.setCell ⟨g, k, none⟩ v) b v0 v1 :=
  ⟨by rw [World.cell?_setCell_other _ _ _ _ (by first | (simp; done) | (simp; omega))]; exact h.c0, by rw [World.cell?_setCell_other _ _ _ _ (by first | (simp; done) | (simp; omega))]; exact h.c1, fun o => by rw [World.frozen?_setCell]; exact h.fz o⟩
structure Shp (w wr : World) (r ob g H cg W : Nat) (a : Option Addr) (len cap : Nat) (zs : List Int) (p : Nat) (xs : List Int) : Prop where
  zb : Box wr w.heap.size (.int .i64 0) (.slice none 0 0)
  bo : Box wr ob (.int .i64 W) (.slice (some ⟨g, 0, none⟩) H cg)
  own : OwnI wr (w.heap.size + 1) (some ⟨g, 0, none⟩) H cg xs
  row : ∀ i, i < H → 0 ≤ xs.getD i 0 ∧ xs.getD i 0 ≤ pw W - 1
  rd : Rd wr r a len cap zs p
  gr : w.grownBy wr (some r)
  ne : ob ≠ g
  ho : w.heap.size < ob
  hg : w.heap.size < g
  hr : r < w.heap.size
  far : ∀ b off, a = some ⟨b, off, none⟩ → 0 < len → b < w.heap.size
theorem Shp.pick {w wr w1 : World} {r ob g H cg W : Nat} {a : Option Addr} {len cap : Nat} {zs : List Int} {p p' : Nat} {xs : List Int} (h : Shp w wr r ob g H cg W a len cap zs p xs) (hr : Rd w1 r a len cap zs p') (hg : wr.grownBy w1 (some r)) : Shp w w1 r ob g H cg W a len cap zs p' xs := by
  have n1 := h.hr
  have n2 := h.ho
  exact ⟨h.zb.grown hg (by omega), h.bo.grown hg (by omega), h.own.other hg (by omega), h.row, hr, grown_trans h.gr hg, h.ne, h.ho, h.hg, h.hr, h.far⟩
theorem Shp.drew {w wr : World} {r ob g H cg W : Nat} {a : Option Addr} {len cap : Nat} {zs : List Int} {p : Nat} {xs : List Int} (h : Shp w wr r ob g H cg W a len cap zs p xs) : Shp w wr.drew r ob g H cg W a len cap zs p xs :=
  h.pick (h.rd.bel ((Below.refl _ _).drew)) (below_grown ((Below.refl _ _).drew) _)
theorem Shp.set {w wr : World} {r ob g H cg W : Nat} {a : Option Addr} {len cap : Nat} {zs : List Int} {p : Nat} {xs : List Int} (h : Shp w wr r ob g H cg W a len cap zs p xs) (k : Nat) (v : Int) (hk : k < H) (h0 : 0 ≤ v) (h1 : v ≤ pw W - 1) : Shp w (wr.setCell ⟨g, k, none⟩ (.int .i64 v)) r ob g H cg W a len cap zs p (xs.set k v) := by
  have n1 := h.hr
  have n2 := h.ho
  have n3 := h.hg
  have n4 := h.ne
  refine ⟨h.zb.store (by omega), h.bo.store n4, h.own.set k v, fun i hi => ?_, h.rd.apart (grown_set (World.grownBy.refl _ _)) (by omega) (fun b off e hl => by have := h.far b off e hl; omega), grown_then h.gr ((Below.refl _ _).setCell (by simp; omega) _), h.ne, h.ho, h.hg, h.hr, h.far⟩
  by_cases e : i = k
  · subst e; rw [getD_elem (by rw [List.length_set, h.own.len]; omega)]; simp; omega
  · have := h.row i hi
    rw [getD_elem (by rw [h.own.len]; omega)] at this
    rw [getD_elem (by rw [List.length_set, h.own.len]; omega), List.getElem_set_ne (by omega)]; exact this

theorem Shp.put {w wr w1 : World} {r ob g H cg W : Nat} {a : Option Addr} {len cap : Nat} {zs : List Int} {p : Nat} {xs ys : List Int} (h : Shp w wr r ob g H cg W a len cap zs p xs) (hg : wr.grownBy w1 (some g)) (ho : OwnI w1 (w.heap.size + 1) (some ⟨g, 0, none⟩) H cg ys) (hr : ∀ i, i < H → 0 ≤ ys.getD i 0 ∧ ys.getD i 0 ≤ pw W - 1) : Shp w w1 r ob g H cg W a len cap zs p ys := by
  have n1 := h.hr
  have n2 := h.ho
  have n3 := h.hg
  have n5 := h.gr.size
  exact ⟨h.zb.grown hg (by omega), h.bo.grown hg h.ne, ho, hr, h.rd.apart hg (by omega) (fun b off e hl => by have := h.far b off e hl; omega), grown_then h.gr ((grown_below hg).mono (by omega)), h.ne, h.ho, h.hg, h.hr, h.far⟩
theorem set_range {xs : List Int} {H k : Nat} {v : Int} {W : Nat} (hl : xs.length = H) (h : ∀ i, i < H → 0 ≤ xs.getD i 0 ∧ xs.getD i 0 ≤ pw W - 1) (hv : 0 ≤ v ∧ v ≤ pw W - 1) : ∀ i, i < H → 0 ≤ (xs.set k v).getD i 0 ∧ (xs.set k v).getD i 0 ≤ pw W - 1 := by
  intro i hi
  by_cases e : i = k
  · subst e; rw [getD_elem (by rw [List.length_set]; omega)]; simp; omega
  · have := h i hi
    rw [getD_elem (by omega)] at this
    rw [getD_elem (by rw [List.length_set]; omega), List.getElem_set_ne (by omega)]; exact this

set_option maxHeartbeats 400000 in
theorem shape_any (r : Nat) (a : Option Addr) (len cap : Nat) (zs : List Int) (p : Nat) (w : World) (h : Rd w r a len cap zs p) (hp : p ≤ 1000) :
    Calls Try.prog 81 #[.pointer (some ⟨r, 0, none⟩), .int .i64 36] w (Draws w r a len cap zs p 8) := by
  have hrw : r < w.heap.size := block_lt h.c0
  have far := Lib.hid h.src
  have h0 := Lib.hid (h.bel ((Below.refl _ _).alloc (Nat.le_refl _) (.cells #[.int .i64 0, .slice none 0 0] 29)))
  clear h
  go_enter Try.func81, Try.ntmps81
  go_wp2_with fail
  refine (pick_any r a len cap zs p 6 _ h0.out (by omega) (by omega)).mono ?_
  rintro e w1 ⟨v1, rfl, hv1, hv1', hr1, hg1⟩
  obtain ⟨H, hH, hH1, hH6⟩ : ∃ H : Nat, v1 = (H : Int) - 1 ∧ 1 ≤ H ∧ H ≤ 6 := ⟨(v1 + 1).toNat, by omega, by omega, by omega⟩
  subst hH
  have zb := Lib.hid (Box.grown (wr := w.alloc (.cells #[.int .i64 0, .slice none 0 0] 29)) (b := w.heap.size) (v0 := .int .i64 0) (v1 := .slice none 0 0) ⟨by simp, by simp, fun o => by simp⟩ hg1 (by omega))
  have g1 := Lib.hid (grown_trans (below_grown ((Below.refl _ _).alloc (Nat.le_refl _) _) _) hg1)
  have hr1 := Lib.hid hr1
  clear hg1
  go_wp2_with fail
  refine (pick_any r a len cap zs (p + 1) 6 _ hr1.out (by omega) (by omega)).mono ?_
  rintro e w2 ⟨v2, rfl, hv2, hv2', hr2, hg2⟩
  obtain ⟨W, hW, hW1, hW6⟩ : ∃ W : Nat, v2 = (W : Int) - 1 ∧ 1 ≤ W ∧ W ≤ 6 := ⟨(v2 + 1).toNat, by omega, by omega, by omega⟩
  subst hW
  have zb := Lib.hid (zb.out.grown hg2 (by omega))
  have g2 := Lib.hid (grown_trans g1.out hg2)
  have hr2 := Lib.hid hr2
  have zb0 := zb
  clear hg2
  have hmul : (H : Int) * (W : Int) ≤ 36 := by
    have : H * W ≤ 6 * 6 := Nat.mul_le_mul hH6 hW6
    have e : ((H * W : Nat) : Int) = (H : Int) * W := by simp
    omega
  have hmul0 : 0 ≤ (H : Int) * (W : Int) := Int.mul_nonneg (by omega) (by omega)
  go_wp2_with fail
  go_loop [5, 6] (fun o i => o = .int .i64 H ∧ i = .int .i64 W) (fun _ _ => 0)
  case atStart => exact ⟨by go_num, by go_num⟩
  case round =>
    obtain ⟨rfl, rfl⟩ := hrel
    go_wp2_with fail
    clear hmul hmul0
    refine (blank_spec W H _ (by omega)).mono ?_
    rintro e w3 ⟨⟨g, rfl, hg, ho⟩, hb⟩
    have zb := zb.out.bel hb
    have g3 := grown_trans g2.out (below_grown hb _)
    have hr3 := hr2.out.bel hb
    have hs2 : w.heap.size < w2.heap.size := block_lt zb0.out.c0
    have hs3 := hb.size
    have hgl := own_lt ho
    have hS : Shp w (w3.alloc (.cells #[.int .i64 W, .slice (some ⟨g, 0, none⟩) H H] 29)) r w3.heap.size g H H W a len cap zs (p + 1 + 1) (List.replicate H 0) := by
      have hb4 := (Below.refl w3.heap.size w3).alloc (Nat.le_refl _) (.cells #[.int .i64 W, .slice (some ⟨g, 0, none⟩) H H] 29)
      refine ⟨zb.bel hb4, ⟨by simp, by simp, fun o => by simp⟩, (ho.mono (by omega)).bel hb4, fun i hi => ?_, hr3.bel hb4, grown_trans g3 (below_grown hb4 _), by omega, by omega, by omega, hrw, far.out⟩
      have := pw_pos W
      rw [getD_elem (by simpa using hi)]; simp; omega
    have hS := Lib.hid hS
    clear zb g3 hr3 ho hb
    go_wp2_with fail
    go_loopw [8] (fun i wr => ∃ k : Nat, k ≤ H ∧ i = .int .i64 k ∧ ∃ xs, Shp w wr r w3.heap.size g H H W a len cap zs (p + 1 + 1 + k) xs) (fun i _ => H - (intOf i).toNat)
    case atStart => exact ⟨0, by omega, rfl, _, hS.out⟩
    case round =>
      obtain ⟨k, hk, rfl, xs, hQ⟩ := hrel
      clear hS
      by_cases hlt : k < H
      · have hD := hQ.drew
        have y0 := hQ.bo.c0
        have y1 := hQ.bo.c1
        have x0 := hD.bo.c0
        have x1 := hD.bo.c1
        have hp1 := pw_pos W
        have hp2 := pw_63 hW6
        have hD := Lib.hid hD
        clear hQ
        go_wp2_with fail
        go_region_held3 (fun W' => W'.cell? ⟨w3.heap.size, 0, none⟩ = some (.int .i64 W) ∧ W'.cell? ⟨w3.heap.size, 1, none⟩ = some (.slice (some ⟨g, 0, none⟩) H H))
          (first | exact ⟨x0, x1⟩ | exact ⟨c0, c1⟩ | exact ⟨d0, d1⟩)
          (first | (go_at_call 71; refine (power_any W _ (by omega)).mono ?_; rintro e w8 ⟨rfl, rfl⟩) | (go_at_call 51; refine (pick_any r a len cap zs _ _ _ hD.out.rd (by omega) (by omega)).mono ?_; rintro e w9 ⟨v, rfl, hv0, hv1, hr9, hg9⟩; have hS9 := hD.out.pick hr9 hg9; have c0 := hS9.bo.c0; have c1 := hS9.bo.c1; have hS10 := hS9.set k v hlt hv0 (by omega); have d0 := hS10.bo.c0; have d1 := hS10.bo.c1; have og := own_cell hS9.own hlt; have of := hS9.own.frozen k; have hS10 := Lib.hid hS10; clear hS9 hr9 hg9))
        go_wp2_with fail
        exact ⟨⟨k + 1, by omega, by go_num, _, hS10.out⟩, by simp [intOf]; omega⟩
      · have : k = H := by omega
        subst this
        have y0 := hQ.bo.c0
        have y1 := hQ.bo.c1
        have z0 := hQ.zb.c0
        have z1 := hQ.zb.c1
        have zf := hQ.zb.fz
        have hQ := Lib.hid hQ
        go_wp2_with fail
        refine bodyPost_ret (v := .agg #[.int .i64 W, .slice (some ⟨g, 0, none⟩) k k]) (by simp [results, Try.results81, go_sem, z0, z1]) rfl ?_
        have S := hQ.out
        have n1 := S.hr
        have n2 := S.hg
        refine ⟨W, k, xs, g, k, _, rfl, ((S.own.store (by simp) _).store (by simp) _).mono (by omega), ⟨hW1, hW6, hH1, hH6, S.own.len, S.row⟩, ((S.rd.apart (grown_set (World.grownBy.refl _ _)) (by omega) (fun b off e hl => by have := S.far b off e hl; omega)).apart (grown_set (World.grownBy.refl _ _)) (by omega) (fun b off e hl => by have := S.far b off e hl; omega)), by omega, grown_then S.gr (((Below.refl _ _).setCell (by simp) _).setCell (by simp) _)⟩
end Go.Proofs.Yteadibgjieimkaa

