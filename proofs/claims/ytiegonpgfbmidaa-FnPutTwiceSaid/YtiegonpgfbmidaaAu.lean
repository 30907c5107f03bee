/-
  The contracts of the laws' drawing functions that draw an image with a cell, with a cell and a flag, or an image with more rows.
-/
import Derived.Test.YtiegonpgfbmidaaAt
namespace Go.Proofs.Ytiegonpgfbmidaa
open Go.RowKit

def DrawnA (w : World) (e : Ending) (w' : World) : Prop :=
  ∃ (W : Int) (s : Option Addr) (n cg : Nat) (xs : List Int) (i j : Int), e = .returned (.tuple #[.agg #[.int .i64 W, .slice s n cg], .int .i64 i, .int .i64 j]) ∧ Row w' s n xs ∧ (n ≤ 6 ∧ n ≤ cg) ∧ Below w.heap.size w w'
def DrawnP (w : World) (e : Ending) (w' : World) : Prop :=
  ∃ (W : Int) (s : Option Addr) (n cg : Nat) (xs : List Int) (i j : Int) (set : Bool), e = .returned (.tuple #[.agg #[.int .i64 W, .slice s n cg], .int .i64 i, .int .i64 j, .bool set]) ∧ Row w' s n xs ∧ (n ≤ 6 ∧ n ≤ cg) ∧ Below w.heap.size w w'

set_option maxHeartbeats 400000 in
theorem draw_DrawImageHas (a : Option Addr) (len cap : Nat) (zs : List Int) (w : World) (h : Bys w a len zs) (hl : len ≤ cap) (hm : cap ≤ 9223372036854775807) :
    Calls Try.prog 16 #[.slice a len cap] w (DrawnA w) := by
  have h0 := h.bel ((Below.refl _ _).alloc (Nat.le_refl _) (.cells #[.int .i64 0, .slice none 0 0] 25))
  clear h
  go_enter Try.func16, Try.ntmps16
  go_wp2_with fail
  refine (open_any a len cap zs _ h0 hl hm).mono ?_
  rintro e w1 ⟨a1, l1, c1, rfl, hr, hb⟩
  have hs1 := hb.size
  have bb := ((Below.refl _ _).alloc (Nat.le_refl _) (.cells #[.int .i64 0, .slice none 0 0] 25)).trans (hb.mono (by simp))
  have zb := (Box.bel (wr := w.alloc (.cells #[.int .i64 0, .slice none 0 0] 25)) (b := w.heap.size) (v0 := .int .i64 0) (v1 := .slice none 0 0) ⟨by simp, by simp, fun o => by simp⟩ hb)
  simp only [World.size_alloc] at hr hs1
  have zb := Lib.hid zb
  have bb := Lib.hid bb
  clear hb
  go_wp2_with fail
  refine (at_any _ a1 l1 c1 zs 0 w1 hr (by omega)).mono ?_
  rintro e w2 ⟨W, s, n, cg, xs, i, j, rfl, hR, hn, hg, hf, _⟩
  have zb := zb.out.grown hg (by omega)
  have bb2 := grown_cut bb.out hg (by omega) (by omega)
  have z0 := zb.c0
  have z1 := zb.c1
  have zf := zb.fz
  have bb2 := Lib.hid bb2
  have hR := Lib.hid hR
  clear zb bb hr hg
  go_wp2_with fail
  refine bodyPost_ret (v := .tuple #[.agg #[.int .i64 W, .slice s n cg], .int .i64 i, .int .i64 j]) (by simp [results, Try.results16, go_sem, z0, z1]) rfl ?_
  exact ⟨W, s, n, cg, xs, i, j, rfl, hR.out.apart (grown_set (grown_set (World.grownBy.refl _ (some w.heap.size)))) (fun b off e hl => by have := hf b off e hl; simp; omega), hn, (bb2.out.setCell (by simp) _).setCell (by simp) _⟩

set_option maxHeartbeats 400000 in
theorem draw_DrawImagePut (a : Option Addr) (len cap : Nat) (zs : List Int) (w : World) (h : Bys w a len zs) (hl : len ≤ cap) (hm : cap ≤ 9223372036854775807) :
    Calls Try.prog 21 #[.slice a len cap] w (DrawnP w) := by
  have h0 := h.bel ((Below.refl _ _).alloc (Nat.le_refl _) (.cells #[.int .i64 0, .slice none 0 0] 25))
  clear h
  go_enter Try.func21, Try.ntmps21
  go_wp2_with fail
  refine (open_any a len cap zs _ h0 hl hm).mono ?_
  rintro e w1 ⟨a1, l1, c1, rfl, hr, hb⟩
  have hs1 := hb.size
  have bb := ((Below.refl _ _).alloc (Nat.le_refl _) (.cells #[.int .i64 0, .slice none 0 0] 25)).trans (hb.mono (by simp))
  have zb := (Box.bel (wr := w.alloc (.cells #[.int .i64 0, .slice none 0 0] 25)) (b := w.heap.size) (v0 := .int .i64 0) (v1 := .slice none 0 0) ⟨by simp, by simp, fun o => by simp⟩ hb)
  simp only [World.size_alloc] at hr hs1
  have zb := Lib.hid zb
  have bb := Lib.hid bb
  clear hb
  go_wp2_with fail
  refine (at_any _ a1 l1 c1 zs 0 w1 hr (by omega)).mono ?_
  rintro e w2 ⟨W, s, n, cg, xs, i, j, rfl, hR, hn, hg, hf, q, hq, hr2⟩
  have zb := zb.out.grown hg (by omega)
  have bb2 := grown_cut bb.out hg (by omega) (by omega)
  have hs2 := hg.size
  obtain ⟨v2, hv2⟩ : ∃ v2, pickV zs l1 q 2 = v2 := ⟨_, rfl⟩
  have hP := fun wx hx => pick_fn (w.heap.size + 1) a1 l1 c1 zs q 2 wx hx (by omega) (by omega)
  rw [hv2] at hP
  have hP := Lib.hid hP
  clear hv2
  have hb3 : Below w2.heap.size w2 ((w2.alloc (.cells #[.int .i64 W, .slice s n cg] 25)).drew) := ((Below.refl _ _).alloc (Nat.le_refl _) _).drew
  have hrd := Lib.hid (hr2.bel hb3)
  have zd := Lib.hid (zb.bel hb3)
  have hRd := Lib.hid (hR.bel hb3)
  have bbd := Lib.hid (bb2.trans (hb3.mono bb2.size))
  have hbd : Box ((w2.alloc (.cells #[.int .i64 W, .slice s n cg] 25)).drew) w2.heap.size (.int .i64 W) (.slice s n cg) := ⟨by go_simp, by go_simp, fun o => by go_simp⟩
  have hbd := Lib.hid hbd
  have hfar : ∀ b off, s = some ⟨b, off, none⟩ → 0 < n → w.heap.size + 1 < b := fun b off e hl => by have := hf b off e hl; have := block_lt hr.c0; simp at this; omega
  have hfar := Lib.hid hfar
  have n1 := Lib.hid (show w.heap.size ≠ w.heap.size + 1 by omega)
  have n2 := Lib.hid (show w2.heap.size ≠ w.heap.size + 1 by have : w.heap.size + 1 < w2.heap.size := block_lt hr2.c0; omega)
  have n3 := Lib.hid (show w.heap.size ≤ ((w2.alloc (.cells #[.int .i64 W, .slice s n cg] 25)).drew).heap.size from bbd.out.size)
  have n4 := Lib.hid (show w.heap.size ≤ w.heap.size + 1 by omega)
  clear hb3 hr2 zb bb hR bb2 hf hg
  go_wp2_with fail
  go_region_law (first | ((go_simp; go_at_call 37; (with_reducible refine (hP.out _ hrd.out).mono ?_); rintro e w3 ⟨rfl, _, _, hr3, hg3⟩; have hz := zd.out.grown hg3 n1.out; have hbo := hbd.out.grown hg3 n2.out; have hR3 := Lib.hid (hRd.out.apart hg3 (fun b off e hl => by have := hfar.out b off e hl; simp; omega)); have bb3 := Lib.hid (grown_cut bbd.out hg3 n4.out n3.out); have z0 := hz.c0; have z1 := hz.c1; have zf := hz.fz; have y0 := hbo.c0; have y1 := hbo.c1; clear hr3 hg3 hz hbo)))
  all_goals
    go_wp2_with fail
    refine bodyPost_ret (v := .tuple #[.agg #[.int .i64 W, .slice s n cg], .int .i64 i, .int .i64 j, .bool (v2 == 0)]) (by simp [results, Try.results21, go_sem, z0, z1]) rfl ?_
    exact ⟨W, s, n, cg, xs, i, j, _, rfl, hR3.out.apart (grown_set (grown_set (World.grownBy.refl _ (some w.heap.size)))) (fun b off e hl => by have := hfar.out b off e hl; simp; omega), hn, (bb3.out.setCell (by simp) _).setCell (by simp) _⟩

def DrawnV (w : World) (e : Ending) (w' : World) : Prop :=
  ∃ (W : Int) (s : Option Addr) (n cg : Nat) (xs : List Int), e = .returned (.agg #[.int .i64 W, .slice s n cg]) ∧ Row w' s n xs ∧ (n ≤ 10 ∧ n ≤ cg) ∧ Below w.heap.size w w'
theorem own_ne {w : World} {B n c k : Nat} {s : Option Addr} {xs : List Int} (h : OwnI w B s n c xs) (hk : k < B ∨ w.heap.size ≤ k) : some k ≠ (Value.slice s n c).ownBlock := by
  rcases h.cases with ⟨rfl, _⟩ | ⟨g, rfl, h1, h2⟩
  · simp [Value.ownBlock]
  · simp [Value.ownBlock]; omega

set_option maxHeartbeats 800000 in
theorem draw_DrawImageValid (a : Option Addr) (len cap : Nat) (zs : List Int) (w : World) (h : Bys w a len zs) (hl : len ≤ cap) (hm : cap ≤ 9223372036854775807) :
    Calls Try.prog 12 #[.slice a len cap] w (DrawnV w) := by
  have h0 := h.bel ((Below.refl _ _).alloc (Nat.le_refl _) (.cells #[.int .i64 0, .slice none 0 0] 25))
  clear h
  go_enter Try.func12, Try.ntmps12
  go_wp2_with fail
  refine (open_any a len cap zs _ h0 hl hm).mono ?_
  rintro e w1 ⟨a1, l1, c1, rfl, hr, hb⟩
  have hs1 := hb.size
  have bb := ((Below.refl _ _).alloc (Nat.le_refl _) (.cells #[.int .i64 0, .slice none 0 0] 25)).trans (hb.mono (by simp))
  have zb := (Box.bel (wr := w.alloc (.cells #[.int .i64 0, .slice none 0 0] 25)) (b := w.heap.size) (v0 := .int .i64 0) (v1 := .slice none 0 0) ⟨by simp, by simp, fun o => by simp⟩ hb)
  simp only [World.size_alloc] at hr hs1
  have zb := Lib.hid zb
  have bb := Lib.hid bb
  clear hb
  go_wp2_with fail
  refine (wrong_any _ a1 l1 c1 zs 0 w1 hr (by omega)).mono ?_
  rintro e w2 ⟨W, s, n, cg, xs, rfl, hR, hn, hg, hf, q, hq, hr2⟩
  have zb := zb.out.grown hg (by omega)
  have bb2 := grown_cut bb.out hg (by omega) (by omega)
  have hs2 := hg.size
  have hb3 : Below w2.heap.size w2 (w2.alloc (.cells #[.int .i64 W, .slice s n cg] 25)) := (Below.refl _ _).alloc (Nat.le_refl _) _
  have hrd := Lib.hid (hr2.bel hb3)
  have zd := Lib.hid (zb.bel hb3)
  have hRd := Lib.hid (hR.bel hb3)
  have bbd := Lib.hid (bb2.trans (hb3.mono bb2.size))
  have hbd : Box (w2.alloc (.cells #[.int .i64 W, .slice s n cg] 25)) w2.heap.size (.int .i64 W) (.slice s n cg) := ⟨by go_simp, by go_simp, fun o => by go_simp⟩
  have hbd := Lib.hid hbd
  have hlt : w.heap.size + 1 < w2.heap.size := block_lt hr2.c0
  have hgs : ∀ k, k < w1.heap.size + 1 ∨ w2.heap.size ≤ k → some k ≠ (Value.slice s n cg).ownBlock := fun k hk => own_ne hR hk
  have hgs := Lib.hid hgs
  clear hb3 hr2 zb hR bb2 hf hg
  go_wp2_with fail
  refine (pick_any _ a1 l1 c1 zs q 10 _ hrd.out (by omega) (by omega)).mono ?_
  rintro e w3 ⟨v, rfl, hv0, hv1, _, hg3⟩
  have hz := zd.out.grown hg3 (by omega)
  have hbo := hbd.out.grown hg3 (by omega)
  have hR3 := Lib.hid (hRd.out.other hg3 (by omega))
  have bb3 := Lib.hid (grown_cut bbd.out hg3 (by omega) (by simp; omega))
  have hs3 : w2.heap.size < w3.heap.size := block_lt hbo.c0
  have z0 := hz.c0
  have z1 := hz.c1
  have zf := hz.fz
  have y0 := hbo.c0
  have y1 := hbo.c1
  have yf := hbo.fz
  clear hg3 hz hbo zd hbd hRd bbd
  by_cases e0 : v = 0
  · subst e0
    obtain ⟨i0, hi, hz0, hz1, hz2⟩ := info_parts infoInt
    go_wp2_with (at_builtin; refine wpList_append_own _ rfl _ _ 23 rfl (w1.heap.size + 1) 3 i0 (.int .i64 0) 1 8 Try.underlying23 hi hz0 hz1 hz2 rfl (by decide) _ n (xs.map (Value.int .i64)) rfl (World.ownsRow.alloc hR3.out _) ⟨w3.heap.size, 0, none⟩ 4 4 [.int .i64 0, .int .i64 0, .int .i64 0, .int .i64 0] rfl rfl ?c1 ?c2 ?c3 ?c4 ?c5 ?_)
    case c1 => intro j u hj; match j, hj with
      | 0, hj => simp at hj; subst hj; simp [Addr.add]
      | 1, hj => simp at hj; subst hj; simp [Addr.add]
      | 2, hj => simp at hj; subst hj; simp [Addr.add]
      | 3, hj => simp at hj; subst hj; simp [Addr.add]
    case c2 => intro u hu; simp at hu; subst hu; rfl
    case c3 => unfold maxLen; omega
    case c4 => omega
    case c5 => simp; omega
    intro v' w4 hown1 hgrow _
    obtain ⟨s', cap', rfl, ho⟩ := own_of (xs := xs ++ [0, 0, 0, 0]) (by rw [List.map_append]; exact hown1)
    have x0 := hgrow.cell (World.cell?_alloc_some z0) (hgs.out _ (.inl (by simp; omega)))
    have x1 := hgrow.cell (World.cell?_alloc_some z1) (hgs.out _ (.inl (by simp; omega)))
    have t0 := hgrow.cell (World.cell?_alloc_some y0) (hgs.out _ (.inr (by simp)))
    have t1 := hgrow.cell (World.cell?_alloc_some y1) (hgs.out _ (.inr (by simp)))
    have xf : ∀ o, w4.frozen? ⟨w.heap.size, o, none⟩ = false := fun o => (World.frozen?_of_block (a := ⟨w.heap.size, o, none⟩) (hgrow.block w.heap.size (by simp; omega) (hgs.out _ (.inl (by omega))))).trans (by rw [((Below.refl _ _).alloc (Nat.le_refl _) _).frozen (p := ⟨w.heap.size, o, none⟩) (show w.heap.size < w3.heap.size by omega)]; exact zf o)
    have tf : ∀ o, w4.frozen? ⟨w2.heap.size, o, none⟩ = false := fun o => (World.frozen?_of_block (a := ⟨w2.heap.size, o, none⟩) (hgrow.block w2.heap.size (by simp; omega) (hgs.out _ (.inr (by omega))))).trans (by rw [((Below.refl _ _).alloc (Nat.le_refl _) _).frozen (p := ⟨w2.heap.size, o, none⟩) (show w2.heap.size < w3.heap.size by omega)]; exact yf o)
    have hne : some w2.heap.size ≠ (Value.slice s' (n + 4) cap').ownBlock := by
      rcases ho.cases with ⟨rfl, h1, _⟩ | ⟨g, rfl, _, _⟩
      · omega
      · simp only [Value.ownBlock, ne_eq, Option.some.injEq]
        intro e
        have h1 := World.ownsRow.cellAt ho 1 (by omega)
        rw [← e, t1, List.getElem?_map] at h1
        cases hx : (xs ++ [0, 0, 0, 0])[1]? with
        | none => rw [hx] at h1; cases h1
        | some u => rw [hx] at h1; cases h1
    have bb4 : Below w.heap.size w w4 := (bb3.out.alloc (by omega) _).grown hgrow (by simp; omega) (fun k hk => by
      by_cases h1 : k < w1.heap.size + 1
      · exact absurd hk.symm (hgs.out k (.inl h1))
      · omega)
    have ho2 : OwnI (w4.setCell ⟨w2.heap.size, 1, none⟩ (.slice s' (n + 4) cap')) (w1.heap.size + 1) s' (n + 4) cap' (xs ++ [0, 0, 0, 0]) :=
      World.ownsRow.kept ho (row := some w2.heap.size) ⟨rfl, rfl, rfl, by simp [World.setCell], fun k _ hk => Below.heap_setCell _ _ _ _ (fun e => hk (by rw [e]))⟩ (.inr (fun e => hne e.symm))
    have ho2 := Lib.hid ho2
    have bb4 := Lib.hid bb4
    have hcap : n + 4 ≤ cap' := own_cap ho
    have hs4 : w2.heap.size < w4.heap.size := block_lt t0
    clear hown1 hgrow ho z0 z1 zf y0 y1 yf hne
    go_wp2
    refine bodyPost_ret (v := .agg #[.int .i64 W, .slice s' (n + 4) cap']) (by simp [results, Try.results12, go_sem, x0, x1]) rfl ?_
    exact ⟨W, s', n + 4, cap', _, rfl, ((ho2.out.store (show w.heap.size < _ by omega) _).store (show w.heap.size < _ by omega) _).row, by omega, ((bb4.out.setCell (show w.heap.size ≤ w2.heap.size by omega) _).setCell (by simp) _).setCell (by simp) _⟩
  · go_wp2_with fail
    refine bodyPost_ret (v := .agg #[.int .i64 W, .slice s n cg]) (by simp [results, Try.results12, go_sem, z0, z1]) rfl ?_
    exact ⟨W, s, n, cg, xs, rfl, ((hR3.out.store (show w.heap.size < _ by omega) _).store (show w.heap.size < _ by omega) _).row, by omega, (bb3.out.setCell (by simp) _).setCell (by simp) _⟩
end Go.Proofs.Ytiegonpgfbmidaa

