/-
  The contracts of the laws' drawing functions that draw one image.
-/
import Derived.Test.YteadibgjieimkaaY
namespace Go.Proofs.Yteadibgjieimkaa
set_option maxRecDepth 100000
open Go.RowKit

/-- What such a function leaves: an image of at most six rows, valid or not. -/
def Drawn (w : World) (e : Ending) (w' : World) : Prop :=
  ∃ (W : Int) (s : Option Addr) (n cg : Nat) (xs : List Int), e = .returned (.agg #[.int .i64 W, .slice s n cg]) ∧ Row w' s n xs ∧ (n ≤ 6 ∧ n ≤ cg) ∧ Below w.heap.size w w'
theorem grown_cut {w w1 w2 : World} {r B : Nat} (h : Below B w w1) (hg : w1.grownBy w2 (some r)) (hr : B ≤ r) (hB : B ≤ w1.heap.size) : Below B w w2 := h.trans ((grown_below hg).mono (by omega))

set_option maxHeartbeats 400000 in
theorem draw_DrawImageOther (a : Option Addr) (len cap : Nat) (zs : List Int) (w : World) (h : Bys w a len zs) (hl : len ≤ cap) (hm : cap ≤ 9223372036854775807) :
    Calls Try.prog 36 #[.slice a len cap] w (Drawn w) := by
  have h0 := h.bel ((Below.refl _ _).alloc (Nat.le_refl _) (.cells #[.int .i64 0, .slice none 0 0] 29))
  clear h
  go_enter Try.func36, Try.ntmps36
  go_wp2_with fail
  refine (open_any a len cap zs _ h0 hl hm).mono ?_
  rintro e w1 ⟨a1, l1, c1, rfl, hr, hb⟩
  have hs1 := hb.size
  have bb := ((Below.refl _ _).alloc (Nat.le_refl _) (.cells #[.int .i64 0, .slice none 0 0] 29)).trans (hb.mono (by simp))
  have zb := (Box.bel (wr := w.alloc (.cells #[.int .i64 0, .slice none 0 0] 29)) (b := w.heap.size) (v0 := .int .i64 0) (v1 := .slice none 0 0) ⟨by simp, by simp, fun o => by simp⟩ hb)
  simp only [World.size_alloc] at hr hs1
  have zb := Lib.hid zb
  have bb := Lib.hid bb
  clear hb
  go_wp2_with fail
  refine (wrong_any _ a1 l1 c1 zs 0 w1 hr (by omega)).mono ?_
  rintro e w2 ⟨W, s, n, cg, xs, rfl, hR, hn, hg, hf, _⟩
  have hR := hR.row
  have zb := zb.out.grown hg (by omega)
  have bb2 := grown_cut bb.out hg (by omega) (by omega)
  have z0 := zb.c0
  have z1 := zb.c1
  have zf := zb.fz
  have bb2 := Lib.hid bb2
  have hR := Lib.hid hR
  clear zb bb hr hg
  go_wp2_with fail
  refine bodyPost_ret (v := .agg #[.int .i64 W, .slice s n cg]) (by simp [results, Try.results36, go_sem, z0, z1]) rfl ?_
  exact ⟨W, s, n, cg, xs, rfl, hR.out.apart (grown_set (grown_set (World.grownBy.refl _ (some w.heap.size)))) (fun b off e hl => by have := hf b off e hl; simp; omega), hn, (bb2.out.setCell (by simp) _).setCell (by simp) _⟩

/-- A law's middle: the drawn image in a box of its own. -/
structure LS (w wr : World) (kb : Nat) (W : Int) (s : Option Addr) (n cg : Nat) (xs : List Int) : Prop where
  c0 : wr.cell? ⟨kb, 0, none⟩ = some (.int .i64 W)
  c1 : wr.cell? ⟨kb, 1, none⟩ = some (.slice s n cg)
  row : Row wr s n xs
  bel : Below w.heap.size w wr
theorem LS.move {w wr w' : World} {kb : Nat} {W : Int} {s : Option Addr} {n cg : Nat} {xs : List Int} (h : LS w wr kb W s n cg xs) (hb : Below wr.heap.size wr w') : LS w w' kb W s n cg xs :=
  ⟨kept hb (block_lt h.c0) h.c0, kept hb (block_lt h.c1) h.c1, h.row.bel hb, h.bel.trans (hb.mono h.bel.size)⟩
theorem LS.mk0 {w w1 : World} {W : Int} {s : Option Addr} {n cg : Nat} {xs : List Int} (hR : Row w1 s n xs) (hb : Below w.heap.size w w1) : LS w (w1.alloc (.cells #[.int .i64 W, .slice s n cg] 29)) w1.heap.size W s n cg xs :=
  ⟨by simp, by simp, hR.bel ((Below.refl _ _).alloc (Nat.le_refl _) _), hb.alloc hb.size _⟩
end Go.Proofs.Yteadibgjieimkaa

