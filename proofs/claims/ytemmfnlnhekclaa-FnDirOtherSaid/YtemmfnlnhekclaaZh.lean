/-
  The contracts of the drawing functions of chapter 21's laws.
-/
import Derived.Test.YtemmfnlnhekclaaK
import Derived.RegionTactic
import Derived.Deep.RegionLaw
namespace Go.Proofs.Ytemmfnlnhekclaa
set_option maxRecDepth 100000
open Go.RowKit

/-- Which direction is drawn. -/
def dirD (zs : List Int) (len p : Nat) : Int := if pickV zs len p 24 = 0 then (if pickV zs len (p + 1) 2 = 0 then -1 else 8) else pickV zs len (p + 1) 8
def DirF (w : World) (r : Nat) (a : Option Addr) (len cap : Nat) (zs : List Int) (p : Nat) (v : Int) (e : Ending) (w' : World) : Prop :=
  e = .returned (.int .i64 v) ∧ Rd w' r a len cap zs (p + 2) ∧ w.grownBy w' (some r)
theorem grown_on {w w1 w2 : World} {r : Nat} (h : w.grownBy w1 (some r)) (h2 : w1.grownBy w2 (some r)) : w.grownBy w2 (some r) :=
  ⟨h2.os.trans h.os, h2.tape.trans h.tape, h2.output.trans h.output, Nat.le_trans h.size h2.size, fun k hk hne => (h2.block k (Nat.lt_of_lt_of_le hk h.size) hne).trans (h.block k hk hne)⟩
theorem grown_bl {w w1 w2 : World} {r : Nat} (h : w.grownBy w1 (some r)) (hb : Below w1.heap.size w1 w2) : w.grownBy w2 (some r) :=
  grown_on h (below_grown hb _)
set_option maxHeartbeats 800000 in
theorem dir_fn (r : Nat) (a : Option Addr) (len cap : Nat) (zs : List Int) (p : Nat) (w : World) (h : Rd w r a len cap zs p) (hp : p ≤ 1000) :
    Calls Try.prog 58 #[.pointer (some ⟨r, 0, none⟩)] w (DirF w r a len cap zs p (dirD zs len p)) := by
  have h0 := Lib.hid h
  have P1 := Lib.hid (pick_fn r a len cap zs p 24 w h (by omega) (by omega))
  have P2 := Lib.hid (fun wx hx => pick_fn r a len cap zs (p + 1) 2 wx hx (by omega) (by omega))
  have P3 := Lib.hid (fun wx hx => pick_fn r a len cap zs (p + 1) 8 wx hx (by omega) (by omega))
  unfold dirD
  generalize pickV zs len p 24 = x at P1
  generalize pickV zs len (p + 1) 2 = y at P2
  generalize pickV zs len (p + 1) 8 = z at P3
  obtain ⟨u, hu⟩ : ∃ u : Int, (if x = 0 then (if y = 0 then -1 else 8) else z) = u := ⟨_, rfl⟩
  rw [hu]
  replace hu := Lib.hid hu
  clear h
  go_enter Try.func58, Try.ntmps58
  go_wp2_with fail
  refine P1.out.mono ?_
  rintro e w1 ⟨rfl, _, _, hr, hg⟩
  have hr1 : r < w1.heap.size := block_lt hr.c0
  by_cases hx : x = 0
  · subst hx
    have hB : Box (w1.alloc (.cells #[.int .i64 (-1), .int .i64 8] 3)) w1.heap.size (.int .i64 (-1)) (.int .i64 8) := ⟨by simp, by simp, fun o => by simp⟩
    have hr2 := Lib.hid (hr.bel ((Below.refl _ _).alloc (Nat.le_refl _) (.cells #[.int .i64 (-1), .int .i64 8] 3)))
    have hg2 := Lib.hid (grown_bl hg ((Below.refl _ _).alloc (Nat.le_refl _) (.cells #[.int .i64 (-1), .int .i64 8] 3)))
    replace hB := Lib.hid hB
    clear hr hg
    go_wp2_with fail
    refine (P2.out _ hr2.out).mono ?_
    rintro e w2 ⟨rfl, y0, y1, hr3, hg3⟩
    have hB := hB.out.grown hg3 (by omega)
    have c0 := hB.c0
    have c1 := hB.c1
    have hg4 := Lib.hid (grown_on hg2.out hg3)
    have hr3 := Lib.hid hr3
    clear hB hg3 hg2
    by_cases hy : y = 0
    · subst hy
      go_wp2_with fail
      go_ret
      exact ⟨by have e := hu.out; simp at e; rw [← e]; rfl, hr3.out, hg4.out⟩
    · obtain rfl : y = 1 := by omega
      go_wp2_with fail
      go_ret
      exact ⟨by have e := hu.out; simp at e; rw [← e]; rfl, hr3.out, hg4.out⟩
  · replace hr := Lib.hid hr
    replace hg := Lib.hid hg
    go_wp2_with fail
    refine (P3.out _ hr.out).mono ?_
    rintro e w2 ⟨rfl, _, _, hr3, hg3⟩
    have hr3 := Lib.hid hr3
    have hg4 := Lib.hid (grown_on hg.out hg3)
    clear hg3
    go_wp2_with fail
    go_ret
    exact ⟨by have e := hu.out; rw [if_neg hx] at e; rw [← e]; rfl, hr3.out, hg4.out⟩

/-- A direction, or a number that is none. -/
def DrawnDS (w : World) (e : Ending) (w' : World) : Prop := ∃ d : Int, e = .returned (.int .i64 d) ∧ Below w.heap.size w w'
theorem draw_DrawDirStep (a : Option Addr) (len cap : Nat) (zs : List Int) (w : World) (h : Bys w a len zs) (hl : len ≤ cap) (hm : cap ≤ 9223372036854775807) :
    Calls Try.prog 19 #[.slice a len cap] w (DrawnDS w) := by
  have O := Lib.hid (open_any a len cap zs w h hl hm)
  clear h
  go_enter Try.func19, Try.ntmps19
  go_wp2_with fail
  refine O.out.mono ?_
  rintro e w1 ⟨a1, l1, c1, rfl, hr, hb⟩
  have P := Lib.hid (pick_any _ a1 l1 c1 zs 0 10 w1 hr (by omega) (by omega))
  have hs := hb.size
  have hb := Lib.hid hb
  clear hr
  go_wp2_with fail
  refine P.out.mono ?_
  rintro e w2 ⟨v, rfl, v0, v1, _, hg⟩
  have hb2 := Lib.hid (grown_cut hb.out hg (Nat.le_refl _) hs)
  clear hg
  go_wp2_with fail
  go_ret
  exact ⟨_, rfl, hb2.out⟩

/-- A direction and a cell, or numbers that are none. -/
def DrawnDL (w : World) (e : Ending) (w' : World) : Prop := ∃ d i j : Int, e = .returned (.tuple #[.int .i64 d, .int .i64 i, .int .i64 j]) ∧ Below w.heap.size w w'
set_option maxHeartbeats 800000 in
theorem draw_DrawDirLine (a : Option Addr) (len cap : Nat) (zs : List Int) (w : World) (h : Bys w a len zs) (hl : len ≤ cap) (hm : cap ≤ 9223372036854775807) :
    Calls Try.prog 23 #[.slice a len cap] w (DrawnDL w) := by
  have O := Lib.hid (open_any a len cap zs w h hl hm)
  clear h
  go_enter Try.func23, Try.ntmps23
  go_wp2_with fail
  refine O.out.mono ?_
  rintro e w1 ⟨a1, l1, c1, rfl, hr, hb⟩
  have hs := hb.size
  have P := Lib.hid (dir_fn _ a1 l1 c1 zs 0 w1 hr (by omega))
  have hb := Lib.hid hb
  generalize dirD zs l1 0 = d at P
  clear hr
  go_wp2_with fail
  refine P.out.mono ?_
  rintro e w2 ⟨rfl, hr, hg⟩
  have hb2 := Lib.hid (grown_cut hb.out hg (Nat.le_refl _) hs)
  have hs2 := hb2.out.size
  have P2 := Lib.hid (pick_any _ a1 l1 c1 zs 2 6 w2 hr (by omega) (by omega))
  clear hg hr hb P
  go_wp2_with fail
  refine P2.out.mono ?_
  rintro e w3 ⟨i, rfl, i0, i1, hr, hg⟩
  have hb3 := Lib.hid (grown_cut hb2.out hg (Nat.le_refl _) hs2)
  have hs3 := hb3.out.size
  have P3 := Lib.hid (pick_any _ a1 l1 c1 zs 3 6 w3 hr (by omega) (by omega))
  clear hg hr hb2 P2
  go_wp2_with fail
  refine P3.out.mono ?_
  rintro e w4 ⟨j, rfl, j0, j1, hr, hg⟩
  have hb4 := Lib.hid (grown_cut hb3.out hg (Nat.le_refl _) hs3)
  have hs4 := hb4.out.size
  have P4 := Lib.hid (pick_any _ a1 l1 c1 zs 4 24 w4 hr (by omega) (by omega))
  clear hg hr hb3 P3
  go_wp2_with fail
  refine P4.out.mono ?_
  rintro e w5 ⟨x, rfl, x0, x1, hr, hg⟩
  have hb5 := Lib.hid (grown_cut hb4.out hg (Nat.le_refl _) hs4)
  have hs5 := hb5.out.size
  clear hg hb4 P4
  by_cases hx : x = 0
  · subst hx
    have hr1 : w.heap.size < w5.heap.size := block_lt hr.c0
    have hB : Box (w5.alloc (.cells #[.int .i64 (-1), .int .i64 6] 3)) w5.heap.size (.int .i64 (-1)) (.int .i64 6) := ⟨by simp, by simp, fun o => by simp⟩
    have hr2 := hr.bel ((Below.refl _ _).alloc (Nat.le_refl _) (.cells #[.int .i64 (-1), .int .i64 6] 3))
    have hb6 := Lib.hid (hb5.out.alloc hs5 (.cells #[.int .i64 (-1), .int .i64 6] 3))
    have hs6 := hb6.out.size
    have P5 := Lib.hid (pick_any _ a1 l1 c1 zs 5 2 _ hr2 (by omega) (by omega))
    replace hB := Lib.hid hB
    clear hr hr2
    go_wp2_with fail
    refine P5.out.mono ?_
    rintro e w6 ⟨y, rfl, y0, y1, hr3, hg3⟩
    have hB := hB.out.grown hg3 (by omega)
    have c0 := hB.c0
    have c1' := hB.c1
    have hb7 := Lib.hid (grown_cut hb6.out hg3 (Nat.le_refl _) hs6)
    clear hB hg3 hr3 hb6 hb5
    by_cases hy : y = 0
    · subst hy
      go_wp2_with fail
      go_ret3
      exact ⟨_, _, _, rfl, hb7.out⟩
    · obtain rfl : y = 1 := by omega
      go_wp2_with fail
      go_ret3
      exact ⟨_, _, _, rfl, hb7.out⟩
  · clear hr
    go_wp2_with fail
    go_ret3
    exact ⟨_, _, _, rfl, hb5.out⟩

/-- An image and a direction, valid or not. -/
def DrawnDI (w : World) (e : Ending) (w' : World) : Prop :=
  ∃ (W : Int) (s : Option Addr) (n cg : Nat) (xs : List Int) (d : Int), e = .returned (.tuple #[.agg #[.int .i64 W, .slice s n cg], .int .i64 d]) ∧ Row w' s n xs ∧ (n ≤ 6 ∧ n ≤ cg) ∧ Below w.heap.size w w'
set_option maxHeartbeats 800000 in
theorem draw_DrawDirSums (a : Option Addr) (len cap : Nat) (zs : List Int) (w : World) (h : Bys w a len zs) (hl : len ≤ cap) (hm : cap ≤ 9223372036854775807) :
    Calls Try.prog 26 #[.slice a len cap] w (DrawnDI w) := by
  have h0 := h.bel ((Below.refl _ _).alloc (Nat.le_refl _) (.cells #[.int .i64 0, .slice none 0 0] 35))
  clear h
  go_enter Try.func26, Try.ntmps26
  go_wp2_with fail
  refine (open_any a len cap zs _ h0 hl hm).mono ?_
  rintro e w1 ⟨a1, l1, c1, rfl, hr, hb⟩
  have hs1 := hb.size
  have bb := ((Below.refl _ _).alloc (Nat.le_refl _) (.cells #[.int .i64 0, .slice none 0 0] 35)).trans (hb.mono (by simp))
  have zb := (Box.bel (wr := w.alloc (.cells #[.int .i64 0, .slice none 0 0] 35)) (b := w.heap.size) (v0 := .int .i64 0) (v1 := .slice none 0 0) ⟨by simp, by simp, fun o => by simp⟩ hb)
  simp only [World.size_alloc] at hr hs1
  have zb := Lib.hid zb
  have bb := Lib.hid bb
  clear hb
  go_wp2_with fail
  refine (wrong_any _ a1 l1 c1 zs 0 w1 hr (by omega)).mono ?_
  rintro e w2 ⟨W, s, n, cg, xs, rfl, hR, hn, hg, hf, q, hq, hr2⟩
  have zb := zb.out.grown hg (by omega)
  have bb2 := grown_cut bb.out hg (by omega) (by omega)
  have hs2 := hg.size
  have hP := fun wx hx => dir_fn (w.heap.size + 1) a1 l1 c1 zs q wx hx (by omega)
  generalize dirD zs l1 q = v2 at hP
  have hP := Lib.hid hP
  have hb3 : Below w2.heap.size w2 ((w2.alloc (.cells #[.int .i64 W, .slice s n cg] 35)).drew) := ((Below.refl _ _).alloc (Nat.le_refl _) _).drew
  have hrd := Lib.hid (hr2.bel hb3)
  have zd := Lib.hid (zb.bel hb3)
  have hRd := Lib.hid (hR.row.bel hb3)
  have bbd := Lib.hid (bb2.trans (hb3.mono bb2.size))
  have hbd : Box ((w2.alloc (.cells #[.int .i64 W, .slice s n cg] 35)).drew) w2.heap.size (.int .i64 W) (.slice s n cg) := ⟨by go_simp, by go_simp, fun o => by go_simp⟩
  have hbd := Lib.hid hbd
  have hfar : ∀ b off, s = some ⟨b, off, none⟩ → 0 < n → w.heap.size + 1 < b := fun b off e hl => by have := hf b off e hl; have := block_lt hr.c0; simp at this; omega
  have hfar := Lib.hid hfar
  have n1 := Lib.hid (show w.heap.size ≠ w.heap.size + 1 by omega)
  have n2 := Lib.hid (show w2.heap.size ≠ w.heap.size + 1 by have : w.heap.size + 1 < w2.heap.size := block_lt hr2.c0; omega)
  have n3 := Lib.hid (show w.heap.size ≤ ((w2.alloc (.cells #[.int .i64 W, .slice s n cg] 35)).drew).heap.size from bbd.out.size)
  have n4 := Lib.hid (show w.heap.size ≤ w.heap.size + 1 by omega)
  clear hb3 hr2 zb bb hR bb2 hf hg
  go_wp2_with fail
  go_region_law (first | ((go_simp; go_at_call 58; (with_reducible refine (hP.out _ hrd.out).mono ?_); rintro e w3 ⟨rfl, hr3, hg3⟩; have hz := zd.out.grown hg3 n1.out; have hbo := hbd.out.grown hg3 n2.out; have hR3 := Lib.hid (hRd.out.apart hg3 (fun b off e hl => by have := hfar.out b off e hl; simp; omega)); have bb3 := Lib.hid (grown_cut bbd.out hg3 n4.out n3.out); have z0 := hz.c0; have z1 := hz.c1; have zf := hz.fz; have y0 := hbo.c0; have y1 := hbo.c1; clear hr3 hg3 hz hbo)))
  all_goals
    go_wp2_with fail
    refine bodyPost_ret (v := .tuple #[.agg #[.int .i64 W, .slice s n cg], .int .i64 v2]) (by simp [results, Try.results26, go_sem, z0, z1]) rfl ?_
    exact ⟨W, s, n, cg, xs, _, rfl, hR3.out.apart (grown_set (grown_set (World.grownBy.refl _ (some w.heap.size)))) (fun b off e hl => by have := hfar.out b off e hl; simp; omega), hn, (bb3.out.setCell (by simp) _).setCell (by simp) _⟩
end Go.Proofs.Ytemmfnlnhekclaa

