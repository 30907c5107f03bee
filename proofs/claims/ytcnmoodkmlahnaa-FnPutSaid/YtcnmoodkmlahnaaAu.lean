/-
  The contracts of the laws' drawing functions that draw an image with a cell, with a cell and a flag, or an image with more rows.
-/
import Derived.Test.YtcnmoodkmlahnaaAt
namespace Go.Proofs.Ytcnmoodkmlahnaa
open Go.RowKit

def DrawnA (w : World) (e : Ending) (w' : World) : Prop :=
  ∃ (W : Int) (s : Option Addr) (n cg : Nat) (xs : List Int) (i j : Int), e = .returned (.tuple #[.agg #[.int .i64 W, .slice s n cg], .int .i64 i, .int .i64 j]) ∧ Row w' s n xs ∧ (n ≤ 6 ∧ n ≤ cg) ∧ Below w.heap.size w w'
def DrawnP (w : World) (e : Ending) (w' : World) : Prop :=
  ∃ (W : Int) (s : Option Addr) (n cg : Nat) (xs : List Int) (i j : Int) (set : Bool), e = .returned (.tuple #[.agg #[.int .i64 W, .slice s n cg], .int .i64 i, .int .i64 j, .bool set]) ∧ Row w' s n xs ∧ (n ≤ 6 ∧ n ≤ cg) ∧ Below w.heap.size w w'

set_option maxHeartbeats 400000 in
theorem draw_DrawImagePut (a : Option Addr) (len cap : Nat) (zs : List Int) (w : World) (h : Bys w a len zs) (hl : len ≤ cap) (hm : cap ≤ 9223372036854775807) :
    Calls Try.prog 4 #[.slice a len cap] w (DrawnP w) := by
  have h0 := h.bel ((Below.refl _ _).alloc (Nat.le_refl _) (.cells #[.int .i64 0, .slice none 0 0] 25))
  clear h
  go_enter Try.func4, Try.ntmps4
  go_wp2_with fail
  refine (open_any a len cap zs _ h0 hl hm).mono ?_
  rintro e w1 ⟨a1, l1, c1, rfl, hr, hb⟩
  have hs1 := hb.size
  have bb := ((Below.refl _ _).alloc (Nat.le_refl _) (.cells #[.int .i64 0, .slice none 0 0] 25)).trans (hb.mono (by simp))
  have zb := (Box.bel (wr := w.alloc (.cells #[.int .i64 0, .slice none 0 0] 25)) (b := w.heap.size) (v0 := .int .i64 0) (v1 := .slice none 0 0) ⟨by simp, by simp, fun o => by simp⟩ hb)
  simp only [World.size_alloc] at hr hs1
  have zb := Lib.hid zb
  have bb := Lib.hid bb
  clear hb
  go_wp2_with fail
  refine (at_any _ a1 l1 c1 zs 0 w1 hr (by omega)).mono ?_
  rintro e w2 ⟨W, s, n, cg, xs, i, j, rfl, hR, hn, hg, hf, q, hq, hr2⟩
  have zb := zb.out.grown hg (by omega)
  have bb2 := grown_cut bb.out hg (by omega) (by omega)
  have hs2 := hg.size
  obtain ⟨v2, hv2⟩ : ∃ v2, pickV zs l1 q 2 = v2 := ⟨_, rfl⟩
  have hP := fun wx hx => pick_fn (w.heap.size + 1) a1 l1 c1 zs q 2 wx hx (by omega) (by omega)
  rw [hv2] at hP
  have hP := Lib.hid hP
  clear hv2
  have hb3 : Below w2.heap.size w2 ((w2.alloc (.cells #[.int .i64 W, .slice s n cg] 25)).drew) := ((Below.refl _ _).alloc (Nat.le_refl _) _).drew
  have hrd := Lib.hid (hr2.bel hb3)
  have zd := Lib.hid (zb.bel hb3)
  have hRd := Lib.hid (hR.bel hb3)
  have bbd := Lib.hid (bb2.trans (hb3.mono bb2.size))
  have hbd : Box ((w2.alloc (.cells #[.int .i64 W, .slice s n cg] 25)).drew) w2.heap.size (.int .i64 W) (.slice s n cg) := ⟨by go_simp, by go_simp, fun o => by go_simp⟩
  have hbd := Lib.hid hbd
  have hfar : ∀ b off, s = some ⟨b, off, none⟩ → 0 < n → w.heap.size + 1 < b := fun b off e hl => by have := hf b off e hl; have := block_lt hr.c0; simp at this; omega
  have hfar := Lib.hid hfar
  have n1 := Lib.hid (show w.heap.size ≠ w.heap.size + 1 by omega)
  have n2 := Lib.hid (show w2.heap.size ≠ w.heap.size + 1 by have : w.heap.size + 1 < w2.heap.size := block_lt hr2.c0; omega)
  have n3 := Lib.hid (show w.heap.size ≤ ((w2.alloc (.cells #[.int .i64 W, .slice s n cg] 25)).drew).heap.size from bbd.out.size)
  have n4 := Lib.hid (show w.heap.size ≤ w.heap.size + 1 by omega)
  clear hb3 hr2 zb bb hR bb2 hf hg
  go_wp2_with fail
  go_region_law (first | ((go_simp; go_at_call 12; (with_reducible refine (hP.out _ hrd.out).mono ?_); rintro e w3 ⟨rfl, _, _, hr3, hg3⟩; have hz := zd.out.grown hg3 n1.out; have hbo := hbd.out.grown hg3 n2.out; have hR3 := Lib.hid (hRd.out.apart hg3 (fun b off e hl => by have := hfar.out b off e hl; simp; omega)); have bb3 := Lib.hid (grown_cut bbd.out hg3 n4.out n3.out); have z0 := hz.c0; have z1 := hz.c1; have zf := hz.fz; have y0 := hbo.c0; have y1 := hbo.c1; clear hr3 hg3 hz hbo)))
  all_goals
    go_wp2_with fail
    refine bodyPost_ret (v := .tuple #[.agg #[.int .i64 W, .slice s n cg], .int .i64 i, .int .i64 j, .bool (v2 == 0)]) (by simp [results, Try.results4, go_sem, z0, z1]) rfl ?_
    exact ⟨W, s, n, cg, xs, i, j, _, rfl, hR3.out.apart (grown_set (grown_set (World.grownBy.refl _ (some w.heap.size)))) (fun b off e hl => by have := hfar.out b off e hl; simp; omega), hn, (bb3.out.setCell (by simp) _).setCell (by simp) _⟩

def DrawnV (w : World) (e : Ending) (w' : World) : Prop :=
  ∃ (W : Int) (s : Option Addr) (n cg : Nat) (xs : List Int), e = .returned (.agg #[.int .i64 W, .slice s n cg]) ∧ Row w' s n xs ∧ (n ≤ 10 ∧ n ≤ cg) ∧ Below w.heap.size w w'
theorem own_ne {w : World} {B n c k : Nat} {s : Option Addr} {xs : List Int} (h : OwnI w B s n c xs) (hk : k < B ∨ w.heap.size ≤ k) : some k ≠ (Value.slice s n c).ownBlock := by
  rcases h.cases with ⟨rfl, _⟩ | ⟨g, rfl, h1, h2⟩
  · simp [Value.ownBlock]
  · simp [Value.ownBlock]; omega

end Go.Proofs.Ytcnmoodkmlahnaa

