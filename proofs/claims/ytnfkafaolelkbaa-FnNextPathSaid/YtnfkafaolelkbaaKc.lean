/-
  The contracts of the model's functions that list switches, count them and do them; lists of switches as they lie in memory.
  The laws' drawing of switches.
  The contracts of the laws' drawing functions of chapter 11.
  Contracts of chapter 11 in the laws' form, and plain facts that the laws ask.
-/
import Derived.Test.YtnfkafaolelkbaaRa
import Derived.Deep.RegionHeld3
import Derived.Test.YtnfkafaolelkbaaKd
import Derived.Test.YtnfkafaolelkbaaHc
import Derived.Test.YtnfkafaolelkbaaEp

namespace Go.Proofs.Ytnfkafaolelkbaa
set_option maxRecDepth 100000
open Go.RowKit

/-- A list of switches that the call owns. -/
def OwnS (w : World) (B : Nat) (a : Option Addr) (n cap : Nat) (L : List SwT) : Prop := w.ownsRow B 97 4 (.slice a n cap) n ((flatS L).map (Value.int .i64))
/-- A list of switches, to be read. -/
def SRow (w : World) (a : Option Addr) (n : Nat) (L : List SwT) : Prop :=
  L.length = n ∧ (n = 0 ∨ ∃ g, a = some ⟨g, 0, none⟩ ∧ ∀ q (h : q < L.length), w.cell? ⟨g, q * 4, none⟩ = some (.int .i64 L[q].1) ∧ w.cell? ⟨g, q * 4 + 1, none⟩ = some (.int .i64 L[q].2.1) ∧ w.cell? ⟨g, q * 4 + 2, none⟩ = some (.int .i64 L[q].2.2.1) ∧ w.cell? ⟨g, q * 4 + 3, none⟩ = some (.int .i64 L[q].2.2.2))
theorem OwnS.len {w : World} {B n cap : Nat} {a : Option Addr} {L : List SwT} (h : OwnS w B a n cap L) : L.length = n := by
  have := h.1
  rw [List.length_map, sflat_len] at this
  omega
theorem OwnS.row {w : World} {B n cap : Nat} {a : Option Addr} {L : List SwT} (h : OwnS w B a n cap L) : SRow w a n L := by
  have hl := h.len
  refine ⟨hl, ?_⟩
  rcases h.2 with ⟨_, h0⟩ | ⟨g, c, cur, e, _⟩
  · exact .inl h0
  · right
    simp only [Value.slice.injEq] at e
    obtain ⟨rfl, _, rfl⟩ := e
    refine ⟨g, rfl, fun q hq => ?_⟩
    have hf := sflat_len L
    have cell : ∀ j, j < n * 4 → w.cell? ⟨g, j, none⟩ = some (.int .i64 ((flatS L).getD j 0)) := fun j hj => by
      rw [World.ownsRow.cellAt h j (by omega), List.getElem?_map, List.getElem?_eq_getElem (by omega), getD_elem (by omega)]; rfl
    have hg := sflat_get L q hq
    exact ⟨by rw [cell _ (by omega), hg.1], by rw [cell _ (by omega), hg.2.1], by rw [cell _ (by omega), hg.2.2.1], by rw [cell _ (by omega), hg.2.2.2]⟩
theorem OwnS.bel {w w' : World} {B n cap : Nat} {a : Option Addr} {L : List SwT} (h : OwnS w B a n cap L) (hb : Below w.heap.size w w') : OwnS w' B a n cap L := (Spare.below (M := Free 0) hb (Nat.le_refl _)).frow h
theorem OwnS.mono {w : World} {B B' n cap : Nat} {a : Option Addr} {L : List SwT} (h : OwnS w B a n cap L) (hB : B' ≤ B) : OwnS w B' a n cap L :=
  ⟨h.1, h.2.imp id fun ⟨g, c, cur, e1, e2, r⟩ => ⟨g, c, cur, e1, by omega, r⟩⟩
theorem SRow.bel {w w' : World} {a : Option Addr} {n : Nat} {L : List SwT} (h : SRow w a n L) (hb : Below w.heap.size w w') : SRow w' a n L :=
  ⟨h.1, h.2.imp id fun ⟨g, e, hc⟩ => ⟨g, e, fun q hq => by
    have hh := hc q hq
    exact ⟨kept hb (block_lt hh.1) hh.1, kept hb (block_lt hh.2.1) hh.2.1, kept hb (block_lt hh.2.2.1) hh.2.2.1, kept hb (block_lt hh.2.2.2) hh.2.2.2⟩⟩⟩
def GivesO (w : World) (L : List SwT) (e : Ending) (w' : World) : Prop :=
  (∃ a cap, e = .returned (.slice a L.length cap) ∧ OwnS w' w.heap.size a L.length cap L) ∧ Below w.heap.size w w'
theorem GivesX.own {w w' : World} {L : List SwT} {e : Ending} (h : GivesX w L e w') : GivesO w L e w' := by
  obtain ⟨⟨v, he, ho⟩, hb⟩ := h
  refine ⟨?_, hb⟩
  have h2 := ho
  rcases h2.2 with ⟨rfl, h0⟩ | ⟨g, c, cur, rfl, _⟩
  · exact ⟨none, 0, by rw [h0]; exact he, by rw [h0] at ho ⊢; exact ho⟩
  · exact ⟨some ⟨g, 0, none⟩, c, he, ho⟩
set_option maxHeartbeats 1000000 in
theorem swlist_spec (W : Int) (a : Option Addr) (n cap : Nat) (xs : List Int) (w : World) (h : Row w a n xs) (hm : n ≤ 9223372036854775807) :
    Calls Try.prog 78 #[.agg #[.int .i64 W, .slice a n cap]] w (GivesO w (listS W xs)) := by
  have hl := h.1
  by_cases hv : validB W xs = true
  · have h1 := validB_W hv
    obtain ⟨W, rfl⟩ := Int.eq_ofNat_of_zero_le (by omega : 0 ≤ W)
    rw [show listS W xs = swL (cellOf xs) W n by rw [← hl]; exact if_pos hv]
    exact (listx_any W a n cap xs w h (Im.of hv hl)).mono fun _ _ h => h.own
  have hv : validB W xs = false := by simpa using hv
  rw [show listS W xs = [] by unfold listS; rw [if_neg (by rw [hv]; simp)]]
  obtain ⟨W0, hW0⟩ : ∃ W0, W0 = (w.alloc (.cells #[.int .i64 W, .slice a n cap] 30)).alloc (.cells #[] 97) := ⟨_, rfl⟩
  have bb : Below w.heap.size w W0 := by subst hW0; exact ((Below.refl _ _).alloc (Nat.le_refl _) _).alloc (by simp) _
  have ho : OwnS W0 (w.heap.size + 1) (some ⟨w.heap.size + 1, 0, none⟩) 0 0 [] := by
    subst hW0
    have := World.ownsRow_lit (base := w.heap.size + 1) (e := 97) (size := 4) (w.alloc (.cells #[.int .i64 W, .slice a n cap] 30)) #[] 0 (by simp) (by decide) rfl
    simpa [OwnS, flatS] using this
  have r := Lib.hid (h.bel bb)
  replace ho := Lib.hid ho
  go_enter Try.func78, Try.ntmps78
  go_wp2_with fail
  rw [← hW0]
  clear hW0
  refine (valid_spec _ _ _ _ xs _ r.out hm).mono ?_
  rintro e w1 ⟨rfl, hb⟩
  rw [hv]
  go_wp2_with fail
  go_ret
  exact ⟨⟨_, _, rfl, (ho.out.bel hb).mono (by omega)⟩, bb.trans (hb.mono bb.size)⟩

theorem keep6 {u v : World} {p0 p1 p2 p3 p4 p5 : Addr} {v0 v1 v2 v3 v4 v5 : Value} (hb : Below u.heap.size u v) (h : u.cell? p0 = some v0 ∧ u.cell? p1 = some v1 ∧ u.cell? p2 = some v2 ∧ u.cell? p3 = some v3 ∧ u.cell? p4 = some v4 ∧ u.cell? p5 = some v5) : v.cell? p0 = some v0 ∧ v.cell? p1 = some v1 ∧ v.cell? p2 = some v2 ∧ v.cell? p3 = some v3 ∧ v.cell? p4 = some v4 ∧ v.cell? p5 = some v5 :=
  ⟨kept hb (block_lt h.1) h.1, keep5 hb h.2⟩
theorem put6 {u : World} {k b g o0 o1 : Nat} {x0 x1 v0 v1 v2 v3 v4 v5 : Value} (hb : b ≠ k) (hg : g ≠ k) (h : u.cell? ⟨b, 0, none⟩ = some v0 ∧ u.cell? ⟨b, 1, none⟩ = some v1 ∧ u.cell? ⟨g, 0, none⟩ = some v2 ∧ u.cell? ⟨g, 1, none⟩ = some v3 ∧ u.cell? ⟨g, 2, none⟩ = some v4 ∧ u.cell? ⟨g, 3, none⟩ = some v5) :
    ((u.setCell ⟨k, o0, none⟩ x0).setCell ⟨k, o1, none⟩ x1).cell? ⟨b, 0, none⟩ = some v0 ∧ ((u.setCell ⟨k, o0, none⟩ x0).setCell ⟨k, o1, none⟩ x1).cell? ⟨b, 1, none⟩ = some v1 ∧ ((u.setCell ⟨k, o0, none⟩ x0).setCell ⟨k, o1, none⟩ x1).cell? ⟨g, 0, none⟩ = some v2 ∧ ((u.setCell ⟨k, o0, none⟩ x0).setCell ⟨k, o1, none⟩ x1).cell? ⟨g, 1, none⟩ = some v3 ∧ ((u.setCell ⟨k, o0, none⟩ x0).setCell ⟨k, o1, none⟩ x1).cell? ⟨g, 2, none⟩ = some v4 ∧ ((u.setCell ⟨k, o0, none⟩ x0).setCell ⟨k, o1, none⟩ x1).cell? ⟨g, 3, none⟩ = some v5 := by
  have o : ∀ {q o : Nat} {v : Value}, q ≠ k → u.cell? ⟨q, o, none⟩ = some v → ((u.setCell ⟨k, o0, none⟩ x0).setCell ⟨k, o1, none⟩ x1).cell? ⟨q, o, none⟩ = some v := fun hq hc =>
    (World.cell?_of_block (Below.heap_setCell _ _ _ _ hq)).trans ((World.cell?_of_block (Below.heap_setCell _ _ _ _ hq)).trans hc)
  exact ⟨o hb h.1, o hb h.2.1, o hg h.2.2.1, o hg h.2.2.2.1, o hg h.2.2.2.2.1, o hg h.2.2.2.2.2⟩

end Go.Proofs.Ytnfkafaolelkbaa

namespace Go.Proofs.Ytnfkafaolelkbaa
set_option maxRecDepth 100000
open Go.RowKit

/-- What l92Switch leaves: a switch of small numbers. -/
def DrawsSw (w : World) (r : Nat) (a : Option Addr) (len cap : Nat) (zs : List Int) (p : Nat) (e : Ending) (w' : World) : Prop :=
  ∃ A B C D : Int, e = .returned (.agg #[.int .i64 A, .int .i64 B, .int .i64 C, .int .i64 D]) ∧ (0 ≤ A ∧ A ≤ 6 ∧ 0 ≤ B ∧ B ≤ 6 ∧ 0 ≤ C ∧ C ≤ 6 ∧ 0 ≤ D ∧ D ≤ 6) ∧ w.grownBy w' (some r) ∧ ∃ p', p' ≤ p + 10 ∧ Rd w' r a len cap zs p'
/-- The middle of its walk. -/
structure LSw (w wr : World) (r : Nat) (a : Option Addr) (len cap : Nat) (zs : List Int) (p : Nat) : Prop where
  y0 : wr.cell? ⟨w.heap.size + 1, 0, none⟩ = some (.int .i64 0)
  y1 : wr.cell? ⟨w.heap.size + 1, 1, none⟩ = some (.int .i64 0)
  y2 : wr.cell? ⟨w.heap.size + 1, 2, none⟩ = some (.int .i64 0)
  y3 : wr.cell? ⟨w.heap.size + 1, 3, none⟩ = some (.int .i64 0)
  yf : ∀ o, wr.frozen? ⟨w.heap.size + 1, o, none⟩ = false
  rd : Rd wr r a len cap zs p
  gr : w.grownBy wr (some r)
  hr : r < w.heap.size
  far : ∀ b off, a = some ⟨b, off, none⟩ → 0 < len → b < w.heap.size
theorem LSw.pick {w wr w1 : World} {r : Nat} {a : Option Addr} {len cap : Nat} {zs : List Int} {p p' : Nat} (h : LSw w wr r a len cap zs p) (hr : Rd w1 r a len cap zs p') (hg : wr.grownBy w1 (some r)) : LSw w w1 r a len cap zs p' := by
  have n1 := h.hr
  exact ⟨hg.cell h.y0 (by simp; omega), hg.cell h.y1 (by simp; omega), hg.cell h.y2 (by simp; omega), hg.cell h.y3 (by simp; omega), fun o => (frozen_grown hg h.y0 (by omega)).trans (h.yf o), hr, grown_trans h.gr hg, h.hr, h.far⟩
theorem LSw.bel {w wr w1 : World} {r : Nat} {a : Option Addr} {len cap : Nat} {zs : List Int} {p : Nat} (h : LSw w wr r a len cap zs p) (hb : Below wr.heap.size wr w1) : LSw w w1 r a len cap zs p :=
  h.pick (h.rd.bel hb) (below_grown hb _)
theorem LSw.out {w wr : World} {r : Nat} {a : Option Addr} {len cap : Nat} {zs : List Int} {p p0 : Nat} {v0 v1 v2 v3 : Value} {A B C D : Int} (h : LSw w wr r a len cap zs p) (hp : p ≤ p0 + 10) (hv : 0 ≤ A ∧ A ≤ 6 ∧ 0 ≤ B ∧ B ≤ 6 ∧ 0 ≤ C ∧ C ≤ 6 ∧ 0 ≤ D ∧ D ≤ 6) :
    DrawsSw w r a len cap zs p0 (.returned (.agg #[.int .i64 A, .int .i64 B, .int .i64 C, .int .i64 D])) ((((wr.setCell ⟨w.heap.size + 1, 0, none⟩ v0).setCell ⟨w.heap.size + 1, 1, none⟩ v1).setCell ⟨w.heap.size + 1, 2, none⟩ v2).setCell ⟨w.heap.size + 1, 3, none⟩ v3) := by
  have n1 := h.hr
  have far := fun b off e hl => (show b ≠ w.heap.size + 1 by have := h.far b off e hl; omega)
  have gs : ∀ {V : World} {k : Nat} {v : Value}, V.grownBy (V.setCell ⟨w.heap.size + 1, k, none⟩ v) (some (w.heap.size + 1)) := fun {V k v} => grown_set (World.grownBy.refl _ _)
  refine ⟨A, B, C, D, rfl, hv, grown_then h.gr (((((Below.refl _ _).setCell (by simp) _).setCell (by simp) _).setCell (by simp) _).setCell (by simp) _), p, hp, ?_⟩
  exact (((h.rd.apart gs (by omega) far).apart gs (by omega) far).apart gs (by omega) far).apart gs (by omega) far

theorem SRow.apart {w w1 : World} {a : Option Addr} {n r : Nat} {L : List SwT} (h : SRow w a n L) (hg : w.grownBy w1 (some r)) (hne : ∀ b off, a = some ⟨b, off, none⟩ → 0 < n → b ≠ r) : SRow w1 a n L := by
  refine ⟨h.1, ?_⟩
  rcases h.2 with h0 | ⟨g, e, hc⟩
  · exact .inl h0
  by_cases hn : n = 0
  · exact .inl hn
  refine .inr ⟨g, e, fun q hq => ?_⟩
  have hh := hc q hq
  have ne := hne g 0 e (by omega)
  exact ⟨hg.cell hh.1 (by simpa using ne), hg.cell hh.2.1 (by simpa using ne), hg.cell hh.2.2.1 (by simpa using ne), hg.cell hh.2.2.2 (by simpa using ne)⟩
theorem OwnS.ge {w : World} {B n cap : Nat} {a : Option Addr} {L : List SwT} (h : OwnS w B a n cap L) : ∀ b off, a = some ⟨b, off, none⟩ → 0 < n → B ≤ b := by
  intro b off e hn
  rcases h.2 with ⟨_, h0⟩ | ⟨g, c, cur, e1, e2, _⟩
  · omega
  · rw [e] at e1
    simp only [Value.slice.injEq, Option.some.injEq, Addr.mk.injEq] at e1
    omega

end Go.Proofs.Ytnfkafaolelkbaa

namespace Go.Proofs.Ytnfkafaolelkbaa
set_option maxRecDepth 100000
open Go.RowKit

/-- What is drawn: an image of at most six rows, valid or not, and a switch of small numbers. -/
def DrawnSw (w : World) (e : Ending) (w' : World) : Prop :=
  ∃ (W : Int) (s : Option Addr) (n cg : Nat) (xs : List Int) (A B C D : Int), e = .returned (.tuple #[.agg #[.int .i64 W, .slice s n cg], .agg #[.int .i64 A, .int .i64 B, .int .i64 C, .int .i64 D]]) ∧ Row w' s n xs ∧ (n ≤ 6 ∧ n ≤ cg) ∧ (0 ≤ A ∧ A ≤ 6 ∧ 0 ≤ B ∧ B ≤ 6 ∧ 0 ≤ C ∧ C ≤ 6 ∧ 0 ≤ D ∧ D ≤ 6) ∧ (∀ b off, s = some ⟨b, off, none⟩ → 0 < n → w.heap.size ≤ b) ∧ Below w.heap.size w w'
/-- The middle of the walk: the results' boxes, the image's box, the reader. -/
structure LDw (w wr : World) (kb r : Nat) (W : Int) (s : Option Addr) (n cg : Nat) (xs : List Int) (a : Option Addr) (len cap : Nat) (zs : List Int) (p : Nat) : Prop where
  x0 : wr.cell? ⟨w.heap.size, 0, none⟩ = some (.int .i64 0)
  x1 : wr.cell? ⟨w.heap.size, 1, none⟩ = some (.slice none 0 0)
  y0 : wr.cell? ⟨w.heap.size + 1, 0, none⟩ = some (.int .i64 0)
  y1 : wr.cell? ⟨w.heap.size + 1, 1, none⟩ = some (.int .i64 0)
  y2 : wr.cell? ⟨w.heap.size + 1, 2, none⟩ = some (.int .i64 0)
  y3 : wr.cell? ⟨w.heap.size + 1, 3, none⟩ = some (.int .i64 0)
  xf : ∀ o, wr.frozen? ⟨w.heap.size, o, none⟩ = false
  yf : ∀ o, wr.frozen? ⟨w.heap.size + 1, o, none⟩ = false
  b0 : wr.cell? ⟨kb, 0, none⟩ = some (.int .i64 W)
  b1 : wr.cell? ⟨kb, 1, none⟩ = some (.slice s n cg)
  row : Row wr s n xs
  rd : Rd wr r a len cap zs p
  bl : Below w.heap.size w wr
  hr : w.heap.size + 1 < r
  hk : kb ≠ r
  src : ∀ b off, s = some ⟨b, off, none⟩ → 0 < n → w.heap.size + 1 < b ∧ b ≠ r
theorem LDw.pick {w wr w1 : World} {kb r : Nat} {W : Int} {s : Option Addr} {n cg : Nat} {xs : List Int} {a : Option Addr} {len cap : Nat} {zs : List Int} {p p' : Nat} (h : LDw w wr kb r W s n cg xs a len cap zs p) (hr : Rd w1 r a len cap zs p') (hg : wr.grownBy w1 (some r)) : LDw w w1 kb r W s n cg xs a len cap zs p' := by
  have n1 := h.hr
  have n2 := h.hk
  exact ⟨hg.cell h.x0 (by simp; omega), hg.cell h.x1 (by simp; omega), hg.cell h.y0 (by simp; omega), hg.cell h.y1 (by simp; omega), hg.cell h.y2 (by simp; omega), hg.cell h.y3 (by simp; omega), fun o => (frozen_grown hg h.x0 (by omega)).trans (h.xf o), fun o => (frozen_grown hg h.y0 (by omega)).trans (h.yf o), hg.cell h.b0 (by simpa using n2), hg.cell h.b1 (by simpa using n2), h.row.apart hg (fun b off e hl => by have := h.src b off e hl; simp; omega), hr, grown_cut h.bl hg (by omega) h.bl.size, h.hr, h.hk, h.src⟩
theorem LDw.bel {w wr w1 : World} {kb r : Nat} {W : Int} {s : Option Addr} {n cg : Nat} {xs : List Int} {a : Option Addr} {len cap : Nat} {zs : List Int} {p : Nat} (h : LDw w wr kb r W s n cg xs a len cap zs p) (hb : Below wr.heap.size wr w1) : LDw w w1 kb r W s n cg xs a len cap zs p :=
  h.pick (h.rd.bel hb) (below_grown hb _)
theorem LDw.out {w wr : World} {kb r : Nat} {W : Int} {s : Option Addr} {n cg : Nat} {xs : List Int} {a : Option Addr} {len cap : Nat} {zs : List Int} {p : Nat} {v0 v1 v2 v3 v4 v5 : Value} {A B C D : Int} (h : LDw w wr kb r W s n cg xs a len cap zs p) (hn : n ≤ 6 ∧ n ≤ cg) (hv : 0 ≤ A ∧ A ≤ 6 ∧ 0 ≤ B ∧ B ≤ 6 ∧ 0 ≤ C ∧ C ≤ 6 ∧ 0 ≤ D ∧ D ≤ 6) :
    DrawnSw w (.returned (.tuple #[.agg #[.int .i64 W, .slice s n cg], .agg #[.int .i64 A, .int .i64 B, .int .i64 C, .int .i64 D]])) ((((((wr.setCell ⟨w.heap.size, 0, none⟩ v0).setCell ⟨w.heap.size, 1, none⟩ v1).setCell ⟨w.heap.size + 1, 0, none⟩ v2).setCell ⟨w.heap.size + 1, 1, none⟩ v3).setCell ⟨w.heap.size + 1, 2, none⟩ v4).setCell ⟨w.heap.size + 1, 3, none⟩ v5) := by
  refine ⟨W, s, n, cg, xs, A, B, C, D, rfl, ?_, hn, hv, fun b off e hl => by have := h.src b off e hl; omega, (((((h.bl.setCell (by simp) _).setCell (by simp) _).setCell (by simp) _).setCell (by simp) _).setCell (by simp) _).setCell (by simp) _⟩
  have h1 := h.row.apart (grown_set (v := v1) (j := 1) (grown_set (v := v0) (j := 0) (World.grownBy.refl wr (some w.heap.size)))) (fun b off e hl => by have := h.src b off e hl; simp; omega)
  exact h1.apart (grown_set (grown_set (grown_set (grown_set (World.grownBy.refl _ (some (w.heap.size + 1))))))) (fun b off e hl => by have := h.src b off e hl; simp; omega)

theorem off2 {V : World} {b c i j : Nat} {u : Value} (h : b ≠ c) : (V.setCell ⟨c, i, none⟩ u).cell? ⟨b, j, none⟩ = V.cell? ⟨b, j, none⟩ :=
  World.cell?_setCell_other _ _ _ _ (by first | (simp; done) | (simp; omega))

end Go.Proofs.Ytnfkafaolelkbaa

namespace Go.Proofs.Ytnfkafaolelkbaa
set_option maxRecDepth 100000
open Go.RowKit

theorem many_ok {W n : Nat} {xs : List Int} {K : Int} (h : Im W n xs) (hK : manyC (cellOf xs) W n = K) (s : Option Addr) (cg : Nat) (w : World) (hR : Row w s n xs) :
    Calls Try.prog 85 #[.agg #[.int .i64 W, .slice s n cg]] w fun e w' => e = .returned (.int .i64 K) ∧ Below w.heap.size w w' := by
  have hc := manysw_impl W s n cg xs w hR (by have := h.l6; omega)
  rw [manyS, if_pos h.valid, Int.toNat_natCast, h.hl, hK] at hc
  exact hc
theorem many_no {W : Int} {xs : List Int} (h : validB W xs = false) {n : Nat} (hn : n ≤ 6) (s : Option Addr) (cg : Nat) (w : World) (hR : Row w s n xs) :
    Calls Try.prog 85 #[.agg #[.int .i64 W, .slice s n cg]] w fun e w' => e = .returned (.int .i64 (-1)) ∧ Below w.heap.size w w' := by
  have hc := manysw_impl W s n cg xs w hR (by omega)
  rw [manyS, if_neg (by rw [h]; simp)] at hc
  exact hc
theorem ok_ok {W : Int} {xs : List Int} {A B C D : Int} {b : Bool} (hb : okB W xs A B C D = b) {n : Nat} (hn : n ≤ 6) (s : Option Addr) (cg : Nat) (w : World) (hR : Row w s n xs) :
    Calls Try.prog 115 #[.agg #[.int .i64 W, .slice s n cg], .agg #[.int .i64 A, .int .i64 B, .int .i64 C, .int .i64 D]] w fun e w' => e = .returned (.bool b) ∧ Below w.heap.size w w' := by
  subst hb; exact swok_impl W s n cg xs A B C D w hR (by omega)
theorem do_ok {W n : Nat} {xs L : List Int} (h : Im W n xs) {A B C D : Nat} (hk : okB W xs A B C D = true) (hL : flL xs W n A B C D = L) (s : Option Addr) (cg : Nat) (w : World) (hR : Row w s n xs) :
    Calls Try.prog 104 #[.agg #[.int .i64 W, .slice s n cg], .agg #[.int .i64 A, .int .i64 B, .int .i64 C, .int .i64 D]] w (GivesI w W n L) := by
  have hc := swdo_impl W s n cg xs A B C D w hR (by have := h.l6; omega)
  rw [doOut_yes h hk, hL] at hc
  exact hc.mono fun e w' hg => hg.ok (by rw [← hL]; exact fll_len _ _ _ _ _ _ _)
theorem do_no {W : Int} {xs : List Int} {A B C D : Int} (h : okB W xs A B C D = false) {n : Nat} (hn : n ≤ 6) (s : Option Addr) (cg : Nat) (w : World) (hR : Row w s n xs) :
    Calls Try.prog 104 #[.agg #[.int .i64 W, .slice s n cg], .agg #[.int .i64 A, .int .i64 B, .int .i64 C, .int .i64 D]] w (GivesN w) := by
  have hc := swdo_impl W s n cg xs A B C D w hR (by omega)
  rw [doOut_no h] at hc
  exact hc
theorem okB_valid {W : Int} {xs : List Int} {A B C D : Int} (h : okB W xs A B C D = true) : validB W xs = true := by
  unfold okB at h; rw [Bool.and_eq_true] at h; exact h.1

/- Plain facts. -/
theorem oth_cell {W n : Nat} {xs : List Int} (h : Im W n xs) {i j : Nat} (hi : i < n) (hj : j < W) : cellOf (othL xs W n) i j = !cellOf xs i j := by
  apply bI_inj
  rw [← cell_bit, h.oth_bit hi hj, bI_not, cell_bit]
theorem manyc_turn {W n : Nat} {xs : List Int} (h : Im W n xs) : manyC (cellOf (turnL xs W n)) n W = manyC (cellOf xs) W n := by
  rw [← many_turn (cellOf xs) W n]
  exact many_ext fun i j hi hj => turn_cell h hj hi
theorem manyc_mir {W n : Nat} {xs : List Int} (h : Im W n xs) : manyC (cellOf (mirL xs W n)) W n = manyC (cellOf xs) W n := by
  rw [← many_mirror (cellOf xs) W n]
  exact many_ext fun i j hi hj => mir_cell h hi hj
theorem manyc_oth {W n : Nat} {xs : List Int} (h : Im W n xs) : manyC (cellOf (othL xs W n)) W n = manyC (cellOf xs) W n := by
  rw [← many_other (cellOf xs) W n]
  exact many_ext fun i j hi hj => oth_cell h hi hj
theorem ok_turn {W n : Nat} {xs : List Int} (h : Im W n xs) {A B C D : Nat} (h1 : A < B) (h2 : B < n) (h3 : C < D) (h4 : D < W) (hs : swC (cellOf xs) A B C D = true) : okB n (turnL xs W n) C D A B = true := by
  rw [okB_yes h.turn h3 h4 h1 h2, sw_turned h (by omega) h2 (by omega) h4]; exact hs
theorem ok_oth {W n : Nat} {xs : List Int} (h : Im W n xs) {A B C D : Nat} (h1 : A < B) (h2 : B < n) (h3 : C < D) (h4 : D < W) (hs : swC (cellOf xs) A B C D = true) : okB W (othL xs W n) A B C D = true := by
  rw [okB_yes h.oth h1 h2 h3 h4, ← hs, ← sw_other (c := cellOf xs)]
  exact sw_ext (oth_cell h (by omega) (by omega)) (oth_cell h (by omega) (by omega)) (oth_cell h (by omega) (by omega)) (oth_cell h (by omega) (by omega))
theorem ok_mir {W n : Nat} {xs : List Int} (h : Im W n xs) {A B C D : Nat} (h1 : A < B) (h2 : B < n) (h3 : C < D) (h4 : D < W) (hs : swC (cellOf xs) A B C D = true) : okB W (mirL xs W n) A B ((W : Int) - 1 - D) ((W : Int) - 1 - C) = true := by
  rw [show (W : Int) - 1 - D = ((W - 1 - D : Nat) : Int) by omega, show (W : Int) - 1 - C = ((W - 1 - C : Nat) : Int) by omega]
  rw [okB_yes h.mir h1 h2 (by omega) (by omega), ← hs, ← sw_mirror (c := cellOf xs) (show C < W by omega) h4]
  exact sw_ext (mir_cell h (by omega) (by omega)) (mir_cell h (by omega) (by omega)) (mir_cell h (by omega) (by omega)) (mir_cell h (by omega) (by omega))
theorem ok_done {W n : Nat} {xs : List Int} (h : Im W n xs) {A B C D : Nat} (h1 : A < B) (h2 : B < n) (h3 : C < D) (h4 : D < W) (hs : swC (cellOf xs) A B C D = true) : okB W (flL xs W n A B C D) A B C D = true := by
  rw [okB_yes (fl_im h A B C D) h1 h2 h3 h4, sw_done h (by omega) h2 (by omega) h4]; exact hs
end Go.Proofs.Ytnfkafaolelkbaa
