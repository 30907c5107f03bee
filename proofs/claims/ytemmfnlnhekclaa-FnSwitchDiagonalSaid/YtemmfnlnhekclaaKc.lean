/-
  The contracts of the model's functions that list switches, count them and do them; lists of switches as they lie in memory.
  The laws' drawing of switches.
  The contracts of the laws' drawing functions of chapter 11.
  Contracts of chapter 11 in the laws' form, and plain facts that the laws ask.
-/
import Derived.Test.YtemmfnlnhekclaaRa
import Derived.Deep.RegionHeld3
import Derived.Test.YtemmfnlnhekclaaKd
import Derived.Test.YtemmfnlnhekclaaHc
import Derived.Test.YtemmfnlnhekclaaEp

namespace Go.Proofs.Ytemmfnlnhekclaa
set_option maxRecDepth 100000
open Go.RowKit

/-- A list of switches that the call owns. -/
def OwnS (w : World) (B : Nat) (a : Option Addr) (n cap : Nat) (L : List SwT) : Prop := w.ownsRow B 48 4 (.slice a n cap) n ((flatS L).map (Value.int .i64))
/-- A list of switches, to be read. -/
def SRow (w : World) (a : Option Addr) (n : Nat) (L : List SwT) : Prop :=
  L.length = n ∧ (n = 0 ∨ ∃ g, a = some ⟨g, 0, none⟩ ∧ ∀ q (h : q < L.length), w.cell? ⟨g, q * 4, none⟩ = some (.int .i64 L[q].1) ∧ w.cell? ⟨g, q * 4 + 1, none⟩ = some (.int .i64 L[q].2.1) ∧ w.cell? ⟨g, q * 4 + 2, none⟩ = some (.int .i64 L[q].2.2.1) ∧ w.cell? ⟨g, q * 4 + 3, none⟩ = some (.int .i64 L[q].2.2.2))
theorem OwnS.len {w : World} {B n cap : Nat} {a : Option Addr} {L : List SwT} (h : OwnS w B a n cap L) : L.length = n := by
  have := h.1
  rw [List.length_map, sflat_len] at this
  omega
theorem OwnS.row {w : World} {B n cap : Nat} {a : Option Addr} {L : List SwT} (h : OwnS w B a n cap L) : SRow w a n L := by
  have hl := h.len
  refine ⟨hl, ?_⟩
  rcases h.2 with ⟨_, h0⟩ | ⟨g, c, cur, e, _⟩
  · exact .inl h0
  · right
    simp only [Value.slice.injEq] at e
    obtain ⟨rfl, _, rfl⟩ := e
    refine ⟨g, rfl, fun q hq => ?_⟩
    have hf := sflat_len L
    have cell : ∀ j, j < n * 4 → w.cell? ⟨g, j, none⟩ = some (.int .i64 ((flatS L).getD j 0)) := fun j hj => by
      rw [World.ownsRow.cellAt h j (by omega), List.getElem?_map, List.getElem?_eq_getElem (by omega), getD_elem (by omega)]; rfl
    have hg := sflat_get L q hq
    exact ⟨by rw [cell _ (by omega), hg.1], by rw [cell _ (by omega), hg.2.1], by rw [cell _ (by omega), hg.2.2.1], by rw [cell _ (by omega), hg.2.2.2]⟩
theorem OwnS.bel {w w' : World} {B n cap : Nat} {a : Option Addr} {L : List SwT} (h : OwnS w B a n cap L) (hb : Below w.heap.size w w') : OwnS w' B a n cap L := (Spare.below (M := Free 0) hb (Nat.le_refl _)).frow h
theorem OwnS.mono {w : World} {B B' n cap : Nat} {a : Option Addr} {L : List SwT} (h : OwnS w B a n cap L) (hB : B' ≤ B) : OwnS w B' a n cap L :=
  ⟨h.1, h.2.imp id fun ⟨g, c, cur, e1, e2, r⟩ => ⟨g, c, cur, e1, by omega, r⟩⟩
theorem SRow.bel {w w' : World} {a : Option Addr} {n : Nat} {L : List SwT} (h : SRow w a n L) (hb : Below w.heap.size w w') : SRow w' a n L :=
  ⟨h.1, h.2.imp id fun ⟨g, e, hc⟩ => ⟨g, e, fun q hq => by
    have hh := hc q hq
    exact ⟨kept hb (block_lt hh.1) hh.1, kept hb (block_lt hh.2.1) hh.2.1, kept hb (block_lt hh.2.2.1) hh.2.2.1, kept hb (block_lt hh.2.2.2) hh.2.2.2⟩⟩⟩
def GivesO (w : World) (L : List SwT) (e : Ending) (w' : World) : Prop :=
  (∃ a cap, e = .returned (.slice a L.length cap) ∧ OwnS w' w.heap.size a L.length cap L) ∧ Below w.heap.size w w'
theorem GivesX.own {w w' : World} {L : List SwT} {e : Ending} (h : GivesX w L e w') : GivesO w L e w' := by
  obtain ⟨⟨v, he, ho⟩, hb⟩ := h
  refine ⟨?_, hb⟩
  have h2 := ho
  rcases h2.2 with ⟨rfl, h0⟩ | ⟨g, c, cur, rfl, _⟩
  · exact ⟨none, 0, by rw [h0]; exact he, by rw [h0] at ho ⊢; exact ho⟩
  · exact ⟨some ⟨g, 0, none⟩, c, he, ho⟩
set_option maxHeartbeats 1000000 in
theorem swlist_spec (W : Int) (a : Option Addr) (n cap : Nat) (xs : List Int) (w : World) (h : Row w a n xs) (hm : n ≤ 9223372036854775807) :
    Calls Try.prog 97 #[.agg #[.int .i64 W, .slice a n cap]] w (GivesO w (listS W xs)) := by
  have hl := h.1
  by_cases hv : validB W xs = true
  · have h1 := validB_W hv
    obtain ⟨W, rfl⟩ := Int.eq_ofNat_of_zero_le (by omega : 0 ≤ W)
    rw [show listS W xs = swL (cellOf xs) W n by rw [← hl]; exact if_pos hv]
    exact (listx_any W a n cap xs w h (Im.of hv hl)).mono fun _ _ h => h.own
  have hv : validB W xs = false := by simpa using hv
  rw [show listS W xs = [] by unfold listS; rw [if_neg (by rw [hv]; simp)]]
  obtain ⟨W0, hW0⟩ : ∃ W0, W0 = (w.alloc (.cells #[.int .i64 W, .slice a n cap] 35)).alloc (.cells #[] 48) := ⟨_, rfl⟩
  have bb : Below w.heap.size w W0 := by subst hW0; exact ((Below.refl _ _).alloc (Nat.le_refl _) _).alloc (by simp) _
  have ho : OwnS W0 (w.heap.size + 1) (some ⟨w.heap.size + 1, 0, none⟩) 0 0 [] := by
    subst hW0
    have := World.ownsRow_lit (base := w.heap.size + 1) (e := 48) (size := 4) (w.alloc (.cells #[.int .i64 W, .slice a n cap] 35)) #[] 0 (by simp) (by decide) rfl
    simpa [OwnS, flatS] using this
  have r := Lib.hid (h.bel bb)
  replace ho := Lib.hid ho
  go_enter Try.func97, Try.ntmps97
  go_wp2_with fail
  rw [← hW0]
  clear hW0
  refine (valid_spec _ _ _ _ xs _ r.out hm).mono ?_
  rintro e w1 ⟨rfl, hb⟩
  rw [hv]
  go_wp2_with fail
  go_ret
  exact ⟨⟨_, _, rfl, (ho.out.bel hb).mono (by omega)⟩, bb.trans (hb.mono bb.size)⟩

set_option maxHeartbeats 1000000 in
theorem swdo_spec (W : Int) (a : Option Addr) (n cap : Nat) (xs : List Int) (A B C D : Int) (w : World) (h : Row w a n xs) (hm : n ≤ 9223372036854775807) :
    Calls Try.prog 41 #[.agg #[.int .i64 W, .slice a n cap], .agg #[.int .i64 A, .int .i64 B, .int .i64 C, .int .i64 D]] w (Gives w (doOut W xs A B C D)) := by
  obtain ⟨W0, hW0⟩ : ∃ W0, W0 = ((w.alloc (.cells #[.int .i64 W, .slice a n cap] 35)).alloc (.cells #[.int .i64 A, .int .i64 B, .int .i64 C, .int .i64 D] 48)).alloc (.cells #[.int .i64 0, .slice none 0 0] 35) := ⟨_, rfl⟩
  have bb : Hid (Below w.heap.size w W0) := by subst hW0; exact (((Below.refl _ _).alloc (Nat.le_refl _) _).alloc (by simp) _).alloc (by simp; omega) _
  have x0 : W0.cell? ⟨w.heap.size, 0, none⟩ = some (.int .i64 W) := by subst hW0; go_simp
  have x1 : W0.cell? ⟨w.heap.size, 1, none⟩ = some (.slice a n cap) := by subst hW0; go_simp
  have s0 : W0.cell? ⟨w.heap.size + 1, 0, none⟩ = some (.int .i64 A) := by subst hW0; go_simp
  have s1 : W0.cell? ⟨w.heap.size + 1, 1, none⟩ = some (.int .i64 B) := by subst hW0; go_simp
  have s2 : W0.cell? ⟨w.heap.size + 1, 2, none⟩ = some (.int .i64 C) := by subst hW0; go_simp
  have s3 : W0.cell? ⟨w.heap.size + 1, 3, none⟩ = some (.int .i64 D) := by subst hW0; go_simp
  have y0 : W0.cell? ⟨w.heap.size + 1 + 1, 0, none⟩ = some (.int .i64 0) := by subst hW0; go_simp
  have y1 : W0.cell? ⟨w.heap.size + 1 + 1, 1, none⟩ = some (.slice none 0 0) := by subst hW0; go_simp
  have yf : ∀ o, W0.frozen? ⟨w.heap.size + 1 + 1, o, none⟩ = false := fun o => by subst hW0; go_simp
  have r := Lib.hid (h.bel bb.out)
  clear h
  have l0 := block_lt y0
  simp only at l0
  have hl := Lib.hid r.out.1
  by_cases ho : okB W xs A B C D = true
  case neg =>
    have ho : okB W xs A B C D = false := by simpa using ho
    rw [doOut_no ho]
    go_enter Try.func41, Try.ntmps41
    go_wp2_with fail
    rw [← hW0]
    clear hW0
    refine (swok_spec _ _ _ _ xs _ _ _ _ _ r.out hm).mono ?_
    rintro e w1 ⟨rfl, hb⟩
    rw [ho]
    replace yf : ∀ o, w1.frozen? ⟨w.heap.size + 1 + 1, o, none⟩ = false := fun o => (hb.frozen (p := ⟨w.heap.size + 1 + 1, o, none⟩) l0).trans (yf o)
    have szw1 := hb.size
    replace x0 := kept hb (block_lt x0) x0
    replace x1 := kept hb (block_lt x1) x1
    replace s0 := kept hb (block_lt s0) s0
    replace s1 := kept hb (block_lt s1) s1
    replace s2 := kept hb (block_lt s2) s2
    replace s3 := kept hb (block_lt s3) s3
    replace y0 := kept hb (block_lt y0) y0
    replace y1 := kept hb (block_lt y1) y1
    replace r := Lib.hid (r.out.bel hb)
    replace bb := Lib.hid (bb.out.trans (hb.mono bb.out.size))
    clear hb
    go_wp2_with fail
    refine bodyPost_ret (v := .tuple #[.agg #[.int .i64 0, .slice none 0 0], .bool false]) (by simp [results, Try.results41, go_sem, y0, y1]) rfl ?_
    exact ⟨⟨none, 0, rfl, own_nil _ _⟩, (bb.out.setCell (by simp; omega) _).setCell (by simp; omega) _⟩
  have hvv : validB W xs = true := by simp only [okB, Bool.and_eq_true] at ho; exact ho.1
  have hI0 := validB_W hvv
  obtain ⟨W, rfl⟩ := Int.eq_ofNat_of_zero_le (by omega : 0 ≤ W)
  have hI : Im W n xs := Im.of hvv hl.out
  have ho' := ho
  obtain ⟨A, B, C, D, rfl, rfl, rfl, rfl, h1, h2, h3, h4, hs⟩ := okB_im hI ho'
  rw [doOut_yes hI ho]
  replace hI := Lib.hid hI
  replace hs := Lib.hid hs
  clear ho' hvv hI0
  go_enter Try.func41, Try.ntmps41
  go_wp2_with fail
  rw [← hW0]
  clear hW0
  refine (swok_spec _ _ _ _ xs _ _ _ _ _ r.out hm).mono ?_
  rintro e w1 ⟨rfl, hb⟩
  rw [ho]
  clear ho
  replace yf : ∀ o, w1.frozen? ⟨w.heap.size + 1 + 1, o, none⟩ = false := fun o => (hb.frozen (p := ⟨w.heap.size + 1 + 1, o, none⟩) l0).trans (yf o)
  have szw1 := hb.size
  replace x0 := kept hb (block_lt x0) x0
  replace x1 := kept hb (block_lt x1) x1
  replace s0 := kept hb (block_lt s0) s0
  replace s1 := kept hb (block_lt s1) s1
  replace s2 := kept hb (block_lt s2) s2
  replace s3 := kept hb (block_lt s3) s3
  replace y0 := kept hb (block_lt y0) y0
  replace y1 := kept hb (block_lt y1) y1
  replace r := Lib.hid (r.out.bel hb)
  replace bb := Lib.hid (bb.out.trans (hb.mono bb.out.size))
  clear hb
  have l1 := block_lt y0
  simp only at l1
  go_wp2_with fail
  refine (dox_any W a n cap xs A B C D _ r.out hI.out h1 h2 h3 h4 hs.out).mono ?_
  rintro e w2 ⟨⟨ag, cg, rfl, ho⟩, hb⟩
  have hz1 := bb.out.size
  replace yf : ∀ o, w2.frozen? ⟨w.heap.size + 1 + 1, o, none⟩ = false := fun o => (hb.frozen (p := ⟨w.heap.size + 1 + 1, o, none⟩) l1).trans (yf o)
  have szw2 := hb.size
  replace x0 := kept hb (block_lt x0) x0
  replace x1 := kept hb (block_lt x1) x1
  replace s0 := kept hb (block_lt s0) s0
  replace s1 := kept hb (block_lt s1) s1
  replace s2 := kept hb (block_lt s2) s2
  replace s3 := kept hb (block_lt s3) s3
  replace y0 := kept hb (block_lt y0) y0
  replace y1 := kept hb (block_lt y1) y1
  replace r := Lib.hid (r.out.bel hb)
  replace bb := Lib.hid (bb.out.trans (hb.mono bb.out.size))
  clear hb
  replace ho := Lib.hid ho
  go_wp2_with fail
  refine bodyPost_ret (v := .tuple #[.agg #[.int .i64 W, .slice ag n cg], .bool true]) (by simp [results, Try.results41, go_sem, y0, y1]) rfl ?_
  refine ⟨⟨ag, cg, by rw [fll_len], ?_⟩, (bb.out.setCell (by simp; omega) _).setCell (by simp; omega) _⟩
  show OwnI _ _ _ (flL xs W n A B C D).length _ (flL xs W n A B C D)
  rw [fll_len]
  exact ((ho.out.store l1 _).store l1 _).mono hz1

theorem keep6 {u v : World} {p0 p1 p2 p3 p4 p5 : Addr} {v0 v1 v2 v3 v4 v5 : Value} (hb : Below u.heap.size u v) (h : u.cell? p0 = some v0 ∧ u.cell? p1 = some v1 ∧ u.cell? p2 = some v2 ∧ u.cell? p3 = some v3 ∧ u.cell? p4 = some v4 ∧ u.cell? p5 = some v5) : v.cell? p0 = some v0 ∧ v.cell? p1 = some v1 ∧ v.cell? p2 = some v2 ∧ v.cell? p3 = some v3 ∧ v.cell? p4 = some v4 ∧ v.cell? p5 = some v5 :=
  ⟨kept hb (block_lt h.1) h.1, keep5 hb h.2⟩
theorem put6 {u : World} {k b g o0 o1 : Nat} {x0 x1 v0 v1 v2 v3 v4 v5 : Value} (hb : b ≠ k) (hg : g ≠ k) (h : u.cell? ⟨b, 0, none⟩ = some v0 ∧ u.cell? ⟨b, 1, none⟩ = some v1 ∧ u.cell? ⟨g, 0, none⟩ = some v2 ∧ u.cell? ⟨g, 1, none⟩ = some v3 ∧ u.cell? ⟨g, 2, none⟩ = some v4 ∧ u.cell? ⟨g, 3, none⟩ = some v5) :
    ((u.setCell ⟨k, o0, none⟩ x0).setCell ⟨k, o1, none⟩ x1).cell? ⟨b, 0, none⟩ = some v0 ∧ ((u.setCell ⟨k, o0, none⟩ x0).setCell ⟨k, o1, none⟩ x1).cell? ⟨b, 1, none⟩ = some v1 ∧ ((u.setCell ⟨k, o0, none⟩ x0).setCell ⟨k, o1, none⟩ x1).cell? ⟨g, 0, none⟩ = some v2 ∧ ((u.setCell ⟨k, o0, none⟩ x0).setCell ⟨k, o1, none⟩ x1).cell? ⟨g, 1, none⟩ = some v3 ∧ ((u.setCell ⟨k, o0, none⟩ x0).setCell ⟨k, o1, none⟩ x1).cell? ⟨g, 2, none⟩ = some v4 ∧ ((u.setCell ⟨k, o0, none⟩ x0).setCell ⟨k, o1, none⟩ x1).cell? ⟨g, 3, none⟩ = some v5 := by
  have o : ∀ {q o : Nat} {v : Value}, q ≠ k → u.cell? ⟨q, o, none⟩ = some v → ((u.setCell ⟨k, o0, none⟩ x0).setCell ⟨k, o1, none⟩ x1).cell? ⟨q, o, none⟩ = some v := fun hq hc =>
    (World.cell?_of_block (Below.heap_setCell _ _ _ _ hq)).trans ((World.cell?_of_block (Below.heap_setCell _ _ _ _ hq)).trans hc)
  exact ⟨o hb h.1, o hb h.2.1, o hg h.2.2.1, o hg h.2.2.2.1, o hg h.2.2.2.2.1, o hg h.2.2.2.2.2⟩

end Go.Proofs.Ytemmfnlnhekclaa

namespace Go.Proofs.Ytemmfnlnhekclaa
set_option maxRecDepth 100000
open Go.RowKit

/-- What l92Switch leaves: a switch of small numbers. -/
def DrawsSw (w : World) (r : Nat) (a : Option Addr) (len cap : Nat) (zs : List Int) (p : Nat) (e : Ending) (w' : World) : Prop :=
  ∃ A B C D : Int, e = .returned (.agg #[.int .i64 A, .int .i64 B, .int .i64 C, .int .i64 D]) ∧ (0 ≤ A ∧ A ≤ 6 ∧ 0 ≤ B ∧ B ≤ 6 ∧ 0 ≤ C ∧ C ≤ 6 ∧ 0 ≤ D ∧ D ≤ 6) ∧ w.grownBy w' (some r) ∧ ∃ p', p' ≤ p + 10 ∧ Rd w' r a len cap zs p'
/-- The middle of its walk. -/
structure LSw (w wr : World) (r : Nat) (a : Option Addr) (len cap : Nat) (zs : List Int) (p : Nat) : Prop where
  y0 : wr.cell? ⟨w.heap.size + 1, 0, none⟩ = some (.int .i64 0)
  y1 : wr.cell? ⟨w.heap.size + 1, 1, none⟩ = some (.int .i64 0)
  y2 : wr.cell? ⟨w.heap.size + 1, 2, none⟩ = some (.int .i64 0)
  y3 : wr.cell? ⟨w.heap.size + 1, 3, none⟩ = some (.int .i64 0)
  yf : ∀ o, wr.frozen? ⟨w.heap.size + 1, o, none⟩ = false
  rd : Rd wr r a len cap zs p
  gr : w.grownBy wr (some r)
  hr : r < w.heap.size
  far : ∀ b off, a = some ⟨b, off, none⟩ → 0 < len → b < w.heap.size
theorem LSw.pick {w wr w1 : World} {r : Nat} {a : Option Addr} {len cap : Nat} {zs : List Int} {p p' : Nat} (h : LSw w wr r a len cap zs p) (hr : Rd w1 r a len cap zs p') (hg : wr.grownBy w1 (some r)) : LSw w w1 r a len cap zs p' := by
  have n1 := h.hr
  exact ⟨hg.cell h.y0 (by simp; omega), hg.cell h.y1 (by simp; omega), hg.cell h.y2 (by simp; omega), hg.cell h.y3 (by simp; omega), fun o => (frozen_grown hg h.y0 (by omega)).trans (h.yf o), hr, grown_trans h.gr hg, h.hr, h.far⟩
theorem LSw.bel {w wr w1 : World} {r : Nat} {a : Option Addr} {len cap : Nat} {zs : List Int} {p : Nat} (h : LSw w wr r a len cap zs p) (hb : Below wr.heap.size wr w1) : LSw w w1 r a len cap zs p :=
  h.pick (h.rd.bel hb) (below_grown hb _)
theorem LSw.out {w wr : World} {r : Nat} {a : Option Addr} {len cap : Nat} {zs : List Int} {p p0 : Nat} {v0 v1 v2 v3 : Value} {A B C D : Int} (h : LSw w wr r a len cap zs p) (hp : p ≤ p0 + 10) (hv : 0 ≤ A ∧ A ≤ 6 ∧ 0 ≤ B ∧ B ≤ 6 ∧ 0 ≤ C ∧ C ≤ 6 ∧ 0 ≤ D ∧ D ≤ 6) :
    DrawsSw w r a len cap zs p0 (.returned (.agg #[.int .i64 A, .int .i64 B, .int .i64 C, .int .i64 D])) ((((wr.setCell ⟨w.heap.size + 1, 0, none⟩ v0).setCell ⟨w.heap.size + 1, 1, none⟩ v1).setCell ⟨w.heap.size + 1, 2, none⟩ v2).setCell ⟨w.heap.size + 1, 3, none⟩ v3) := by
  have n1 := h.hr
  have far := fun b off e hl => (show b ≠ w.heap.size + 1 by have := h.far b off e hl; omega)
  have gs : ∀ {V : World} {k : Nat} {v : Value}, V.grownBy (V.setCell ⟨w.heap.size + 1, k, none⟩ v) (some (w.heap.size + 1)) := fun {V k v} => grown_set (World.grownBy.refl _ _)
  refine ⟨A, B, C, D, rfl, hv, grown_then h.gr (((((Below.refl _ _).setCell (by simp) _).setCell (by simp) _).setCell (by simp) _).setCell (by simp) _), p, hp, ?_⟩
  exact (((h.rd.apart gs (by omega) far).apart gs (by omega) far).apart gs (by omega) far).apart gs (by omega) far

theorem SRow.apart {w w1 : World} {a : Option Addr} {n r : Nat} {L : List SwT} (h : SRow w a n L) (hg : w.grownBy w1 (some r)) (hne : ∀ b off, a = some ⟨b, off, none⟩ → 0 < n → b ≠ r) : SRow w1 a n L := by
  refine ⟨h.1, ?_⟩
  rcases h.2 with h0 | ⟨g, e, hc⟩
  · exact .inl h0
  by_cases hn : n = 0
  · exact .inl hn
  refine .inr ⟨g, e, fun q hq => ?_⟩
  have hh := hc q hq
  have ne := hne g 0 e (by omega)
  exact ⟨hg.cell hh.1 (by simpa using ne), hg.cell hh.2.1 (by simpa using ne), hg.cell hh.2.2.1 (by simpa using ne), hg.cell hh.2.2.2 (by simpa using ne)⟩
theorem OwnS.ge {w : World} {B n cap : Nat} {a : Option Addr} {L : List SwT} (h : OwnS w B a n cap L) : ∀ b off, a = some ⟨b, off, none⟩ → 0 < n → B ≤ b := by
  intro b off e hn
  rcases h.2 with ⟨_, h0⟩ | ⟨g, c, cur, e1, e2, _⟩
  · omega
  · rw [e] at e1
    simp only [Value.slice.injEq, Option.some.injEq, Addr.mk.injEq] at e1
    omega

set_option maxHeartbeats 1000000 in
theorem switch_any (r : Nat) (a : Option Addr) (len cap : Nat) (zs : List Int) (p : Nat) (W : Int) (s : Option Addr) (n cg : Nat) (xs : List Int) (w : World) (h : Rd w r a len cap zs p) (hp : p ≤ 500) (hR : Row w s n xs) (hn : n ≤ 6) :
    Calls Try.prog 90 #[.pointer (some ⟨r, 0, none⟩), .agg #[.int .i64 W, .slice s n cg]] w (DrawsSw w r a len cap zs p) := by
  have hrw : r < w.heap.size := block_lt h.c0
  obtain ⟨W0, hW0⟩ : ∃ W0, W0 = (w.alloc (.cells #[.int .i64 W, .slice s n cg] 35)).alloc (.cells #[.int .i64 0, .int .i64 0, .int .i64 0, .int .i64 0] 48) := ⟨_, rfl⟩
  have bb : Below w.heap.size w W0 := by subst hW0; exact ((Below.refl _ _).alloc (Nat.le_refl _) _).alloc (by simp) _
  have hS : LSw w W0 r a len cap zs p := by
    refine ⟨?_, ?_, ?_, ?_, ?_, h.bel bb, below_grown bb _, hrw, h.src⟩
    all_goals (subst hW0; simp)
  have hS := Lib.hid hS
  have hRw := Lib.hid (hR.bel bb)
  have hl := hR.1
  clear bb h hR
  go_enter Try.func90, Try.ntmps90
  go_wp2_with fail
  rw [← hW0]
  clear hW0
  refine (swlist_spec W s n cg xs _ hRw.out (by omega)).mono ?_
  rintro e w1 ⟨⟨g, c, rfl, ho⟩, hb⟩
  have hS1 := Lib.hid (hS.out.bel hb)
  have hL := Lib.hid ho.row
  have hge : ∀ b off, g = some ⟨b, off, none⟩ → 0 < (listS W xs).length → w.heap.size ≤ b := fun b off e h0 => by have := ho.ge b off e h0; have := hS.out.gr.size; omega
  have hall := Lib.hid (fun t (ht : t ∈ listS W xs) => listS_im hl ht)
  clear hS hRw ho hb
  obtain ⟨L, hLe⟩ : ∃ L, listS W xs = L := ⟨_, rfl⟩
  rw [hLe] at hL hall hge
  rw [hLe]
  obtain ⟨N, hN⟩ : ∃ N, L.length = N := ⟨_, rfl⟩
  rw [hN] at hL hge
  rw [hN]
  have hNb : N ≤ 135 := by
    subst hN; subst hLe
    unfold listS
    split
    · rename_i hv
      have h1 := validB_W hv
      obtain ⟨W, rfl⟩ := Int.eq_ofNat_of_zero_le (by omega : 0 ≤ W)
      have := (Im.of hv rfl).w6
      exact swl_135 _ (by simp; omega) (by omega)
    · simp
  clear hLe
  by_cases hz : N = 0
  · subst hz
    go_wp2_with fail
    refine (pick_any r a len cap zs (p) 3 _ hS1.out.rd (by omega) (by omega)).mono ?_
    rintro e wq0 ⟨vA, rfl, hvA0, hvA1, hr2, hg2⟩
    have hSq0 := Lib.hid (hS1.out.pick hr2 hg2)
    clear hS1 hr2 hg2
    go_wp2_with fail
    refine (pick_any r a len cap zs (p + 1) 7 _ hSq0.out.rd (by omega) (by omega)).mono ?_
    rintro e wq1 ⟨vB, rfl, hvB0, hvB1, hr2, hg2⟩
    have hSq1 := Lib.hid (hSq0.out.pick hr2 hg2)
    clear hSq0 hr2 hg2
    go_wp2_with fail
    refine (pick_any r a len cap zs (p + 1 + 1) 3 _ hSq1.out.rd (by omega) (by omega)).mono ?_
    rintro e wq2 ⟨vC, rfl, hvC0, hvC1, hr2, hg2⟩
    have hSq2 := Lib.hid (hSq1.out.pick hr2 hg2)
    clear hSq1 hr2 hg2
    go_wp2_with fail
    refine (pick_any r a len cap zs (p + 1 + 1 + 1) 7 _ hSq2.out.rd (by omega) (by omega)).mono ?_
    rintro e wq3 ⟨vD, rfl, hvD0, hvD1, hr2, hg2⟩
    have hSq3 := Lib.hid (hSq2.out.pick hr2 hg2)
    clear hSq2 hr2 hg2
    have y0 := hSq3.out.y0
    have y1 := hSq3.out.y1
    have y2 := hSq3.out.y2
    have y3 := hSq3.out.y3
    have yf := hSq3.out.yf
    go_wp2_with fail
    refine bodyPost_ret (v := .agg #[.int .i64 vA, .int .i64 vB, .int .i64 vC, .int .i64 vD]) (by simp [results, Try.results90, go_sem, y0, y1, y2, y3]) rfl ?_
    exact hSq3.out.out (by omega) (by omega)
  · go_wp2_with fail
    refine (pick_any r a len cap zs p 8 _ hS1.out.rd (by omega) (by omega)).mono ?_
    rintro e w2 ⟨v, rfl, hv0, hv1, hr2, hg2⟩
    have hS2 := Lib.hid (hS1.out.pick hr2 hg2)
    have hL2 := Lib.hid (hL.out.apart hg2 (fun b off e h0 => by have := hge b off e h0; omega))
    clear hr2 hg2 hS1
    by_cases hv : 0 < v
    · go_wp2_with fail
      refine (pick_any r a len cap zs (p + 1) N _ hS2.out.rd (by omega) (by omega)).mono ?_
      rintro e w3 ⟨u, rfl, hu0, hu1, hr2, hg2⟩
      have hS3 := Lib.hid (hS2.out.pick hr2 hg2)
      obtain ⟨u, rfl⟩ := Int.eq_ofNat_of_zero_le hu0
      have huN : u < N := by omega
      have hL3 := hL2.out.apart hg2 (fun b off e h0 => by have := hge b off e h0; omega)
      rcases hL3.2 with h0 | ⟨g', rfl, hc⟩
      · omega
      obtain ⟨e0, e1, e2, e3⟩ := hc u (by omega)
      obtain ⟨W', -, hI, b1, b2, b3, b4, -⟩ := hall.out _ (List.getElem_mem (show u < L.length by omega))
      have hI6 := hI.w6
      generalize L[u] = t at e0 e1 e2 e3 b1 b2 b3 b4
      obtain ⟨A, B, C, D⟩ := t
      simp only at e0 e1 e2 e3 b1 b2 b3 b4
      clear hc hL2 hL3 hL hS2 hall hr2 hg2 hI
      have y0 := hS3.out.y0
      have y1 := hS3.out.y1
      have y2 := hS3.out.y2
      have y3 := hS3.out.y3
      have yf := hS3.out.yf
      go_wp2_with fail
      refine bodyPost_ret (v := .agg #[.int .i64 A, .int .i64 B, .int .i64 C, .int .i64 D]) (by simp [results, Try.results90, go_sem, y0, y1, y2, y3]) rfl ?_
      exact hS3.out.out (by omega) (by omega)
    · skip
      go_wp2_with fail
      refine (pick_any r a len cap zs (p + 1) 3 _ hS2.out.rd (by omega) (by omega)).mono ?_
      rintro e wq0 ⟨vA, rfl, hvA0, hvA1, hr2, hg2⟩
      have hSq0 := Lib.hid (hS2.out.pick hr2 hg2)
      clear hS2 hr2 hg2
      go_wp2_with fail
      refine (pick_any r a len cap zs (p + 1 + 1) 7 _ hSq0.out.rd (by omega) (by omega)).mono ?_
      rintro e wq1 ⟨vB, rfl, hvB0, hvB1, hr2, hg2⟩
      have hSq1 := Lib.hid (hSq0.out.pick hr2 hg2)
      clear hSq0 hr2 hg2
      go_wp2_with fail
      refine (pick_any r a len cap zs (p + 1 + 1 + 1) 3 _ hSq1.out.rd (by omega) (by omega)).mono ?_
      rintro e wq2 ⟨vC, rfl, hvC0, hvC1, hr2, hg2⟩
      have hSq2 := Lib.hid (hSq1.out.pick hr2 hg2)
      clear hSq1 hr2 hg2
      go_wp2_with fail
      refine (pick_any r a len cap zs (p + 1 + 1 + 1 + 1) 7 _ hSq2.out.rd (by omega) (by omega)).mono ?_
      rintro e wq3 ⟨vD, rfl, hvD0, hvD1, hr2, hg2⟩
      have hSq3 := Lib.hid (hSq2.out.pick hr2 hg2)
      clear hSq2 hr2 hg2
      have y0 := hSq3.out.y0
      have y1 := hSq3.out.y1
      have y2 := hSq3.out.y2
      have y3 := hSq3.out.y3
      have yf := hSq3.out.yf
      go_wp2_with fail
      refine bodyPost_ret (v := .agg #[.int .i64 vA, .int .i64 vB, .int .i64 vC, .int .i64 vD]) (by simp [results, Try.results90, go_sem, y0, y1, y2, y3]) rfl ?_
      exact hSq3.out.out (by omega) (by omega)
end Go.Proofs.Ytemmfnlnhekclaa

namespace Go.Proofs.Ytemmfnlnhekclaa
set_option maxRecDepth 100000
open Go.RowKit

/-- What is drawn: an image of at most six rows, valid or not, and a switch of small numbers. -/
def DrawnSw (w : World) (e : Ending) (w' : World) : Prop :=
  ∃ (W : Int) (s : Option Addr) (n cg : Nat) (xs : List Int) (A B C D : Int), e = .returned (.tuple #[.agg #[.int .i64 W, .slice s n cg], .agg #[.int .i64 A, .int .i64 B, .int .i64 C, .int .i64 D]]) ∧ Row w' s n xs ∧ (n ≤ 6 ∧ n ≤ cg) ∧ (0 ≤ A ∧ A ≤ 6 ∧ 0 ≤ B ∧ B ≤ 6 ∧ 0 ≤ C ∧ C ≤ 6 ∧ 0 ≤ D ∧ D ≤ 6) ∧ (∀ b off, s = some ⟨b, off, none⟩ → 0 < n → w.heap.size ≤ b) ∧ Below w.heap.size w w'
/-- The middle of the walk: the results' boxes, the image's box, the reader. -/
structure LDw (w wr : World) (kb r : Nat) (W : Int) (s : Option Addr) (n cg : Nat) (xs : List Int) (a : Option Addr) (len cap : Nat) (zs : List Int) (p : Nat) : Prop where
  x0 : wr.cell? ⟨w.heap.size, 0, none⟩ = some (.int .i64 0)
  x1 : wr.cell? ⟨w.heap.size, 1, none⟩ = some (.slice none 0 0)
  y0 : wr.cell? ⟨w.heap.size + 1, 0, none⟩ = some (.int .i64 0)
  y1 : wr.cell? ⟨w.heap.size + 1, 1, none⟩ = some (.int .i64 0)
  y2 : wr.cell? ⟨w.heap.size + 1, 2, none⟩ = some (.int .i64 0)
  y3 : wr.cell? ⟨w.heap.size + 1, 3, none⟩ = some (.int .i64 0)
  xf : ∀ o, wr.frozen? ⟨w.heap.size, o, none⟩ = false
  yf : ∀ o, wr.frozen? ⟨w.heap.size + 1, o, none⟩ = false
  b0 : wr.cell? ⟨kb, 0, none⟩ = some (.int .i64 W)
  b1 : wr.cell? ⟨kb, 1, none⟩ = some (.slice s n cg)
  row : Row wr s n xs
  rd : Rd wr r a len cap zs p
  bl : Below w.heap.size w wr
  hr : w.heap.size + 1 < r
  hk : kb ≠ r
  src : ∀ b off, s = some ⟨b, off, none⟩ → 0 < n → w.heap.size + 1 < b ∧ b ≠ r
theorem LDw.pick {w wr w1 : World} {kb r : Nat} {W : Int} {s : Option Addr} {n cg : Nat} {xs : List Int} {a : Option Addr} {len cap : Nat} {zs : List Int} {p p' : Nat} (h : LDw w wr kb r W s n cg xs a len cap zs p) (hr : Rd w1 r a len cap zs p') (hg : wr.grownBy w1 (some r)) : LDw w w1 kb r W s n cg xs a len cap zs p' := by
  have n1 := h.hr
  have n2 := h.hk
  exact ⟨hg.cell h.x0 (by simp; omega), hg.cell h.x1 (by simp; omega), hg.cell h.y0 (by simp; omega), hg.cell h.y1 (by simp; omega), hg.cell h.y2 (by simp; omega), hg.cell h.y3 (by simp; omega), fun o => (frozen_grown hg h.x0 (by omega)).trans (h.xf o), fun o => (frozen_grown hg h.y0 (by omega)).trans (h.yf o), hg.cell h.b0 (by simpa using n2), hg.cell h.b1 (by simpa using n2), h.row.apart hg (fun b off e hl => by have := h.src b off e hl; simp; omega), hr, grown_cut h.bl hg (by omega) h.bl.size, h.hr, h.hk, h.src⟩
theorem LDw.bel {w wr w1 : World} {kb r : Nat} {W : Int} {s : Option Addr} {n cg : Nat} {xs : List Int} {a : Option Addr} {len cap : Nat} {zs : List Int} {p : Nat} (h : LDw w wr kb r W s n cg xs a len cap zs p) (hb : Below wr.heap.size wr w1) : LDw w w1 kb r W s n cg xs a len cap zs p :=
  h.pick (h.rd.bel hb) (below_grown hb _)
theorem LDw.out {w wr : World} {kb r : Nat} {W : Int} {s : Option Addr} {n cg : Nat} {xs : List Int} {a : Option Addr} {len cap : Nat} {zs : List Int} {p : Nat} {v0 v1 v2 v3 v4 v5 : Value} {A B C D : Int} (h : LDw w wr kb r W s n cg xs a len cap zs p) (hn : n ≤ 6 ∧ n ≤ cg) (hv : 0 ≤ A ∧ A ≤ 6 ∧ 0 ≤ B ∧ B ≤ 6 ∧ 0 ≤ C ∧ C ≤ 6 ∧ 0 ≤ D ∧ D ≤ 6) :
    DrawnSw w (.returned (.tuple #[.agg #[.int .i64 W, .slice s n cg], .agg #[.int .i64 A, .int .i64 B, .int .i64 C, .int .i64 D]])) ((((((wr.setCell ⟨w.heap.size, 0, none⟩ v0).setCell ⟨w.heap.size, 1, none⟩ v1).setCell ⟨w.heap.size + 1, 0, none⟩ v2).setCell ⟨w.heap.size + 1, 1, none⟩ v3).setCell ⟨w.heap.size + 1, 2, none⟩ v4).setCell ⟨w.heap.size + 1, 3, none⟩ v5) := by
  refine ⟨W, s, n, cg, xs, A, B, C, D, rfl, ?_, hn, hv, fun b off e hl => by have := h.src b off e hl; omega, (((((h.bl.setCell (by simp) _).setCell (by simp) _).setCell (by simp) _).setCell (by simp) _).setCell (by simp) _).setCell (by simp) _⟩
  have h1 := h.row.apart (grown_set (v := v1) (j := 1) (grown_set (v := v0) (j := 0) (World.grownBy.refl wr (some w.heap.size)))) (fun b off e hl => by have := h.src b off e hl; simp; omega)
  exact h1.apart (grown_set (grown_set (grown_set (grown_set (World.grownBy.refl _ (some (w.heap.size + 1))))))) (fun b off e hl => by have := h.src b off e hl; simp; omega)

theorem off2 {V : World} {b c i j : Nat} {u : Value} (h : b ≠ c) : (V.setCell ⟨c, i, none⟩ u).cell? ⟨b, j, none⟩ = V.cell? ⟨b, j, none⟩ :=
  World.cell?_setCell_other _ _ _ _ (by first | (simp; done) | (simp; omega))

set_option maxHeartbeats 1000000 in
theorem draw_DrawSwitchOk (a : Option Addr) (len cap : Nat) (zs : List Int) (w : World) (h : Bys w a len zs) (hl : len ≤ cap) (hm : cap ≤ 9223372036854775807) :
    Calls Try.prog 77 #[.slice a len cap] w (DrawnSw w) := by
  obtain ⟨W0, hW0⟩ : ∃ W0, W0 = (w.alloc (.cells #[.int .i64 0, .slice none 0 0] 35)).alloc (.cells #[.int .i64 0, .int .i64 0, .int .i64 0, .int .i64 0] 48) := ⟨_, rfl⟩
  have bb : Below w.heap.size w W0 := by subst hW0; exact ((Below.refl _ _).alloc (Nat.le_refl _) _).alloc (by simp) _
  have h0 := h.bel ((Below.mono bb (Nat.le_refl _)))
  have hs0 : W0.heap.size = w.heap.size + 2 := by subst hW0; simp
  have cc : W0.cell? ⟨w.heap.size, 0, none⟩ = some (.int .i64 0) ∧ W0.cell? ⟨w.heap.size, 1, none⟩ = some (.slice none 0 0) ∧ W0.cell? ⟨w.heap.size + 1, 0, none⟩ = some (.int .i64 0) ∧ W0.cell? ⟨w.heap.size + 1, 1, none⟩ = some (.int .i64 0) ∧ W0.cell? ⟨w.heap.size + 1, 2, none⟩ = some (.int .i64 0) ∧ W0.cell? ⟨w.heap.size + 1, 3, none⟩ = some (.int .i64 0) := by
    subst hW0; simp
  have ff : (∀ o, W0.frozen? ⟨w.heap.size, o, none⟩ = false) ∧ (∀ o, W0.frozen? ⟨w.heap.size + 1, o, none⟩ = false) := by
    subst hW0; simp
  replace cc := Lib.hid cc
  replace h0 := Lib.hid h0
  replace bb := Lib.hid bb
  replace hs0 := Lib.hid hs0
  replace ff := Lib.hid ff
  clear h
  go_enter Try.func77, Try.ntmps77
  go_wp2_with fail
  rw [← hW0]
  clear hW0
  refine (open_any a len cap zs _ h0.out hl hm).mono ?_
  rintro e w1 ⟨a1, l1, c1, rfl, hr, hb⟩
  replace hb := Lib.hid hb
  replace hr := Lib.hid hr
  go_wp2_with fail
  refine (wrong_any _ a1 l1 c1 zs 0 w1 hr.out (by omega)).mono ?_
  rintro e w2 ⟨W, s, n, cg, xs, rfl, hR, hn, hg, hf, p2, hp2, hr2⟩
  replace hs0 := hs0.out
  have hrlt : W0.heap.size < w1.heap.size := block_lt hr.out.c0
  have hA : LDw w (w2.alloc (.cells #[.int .i64 W, .slice s n cg] 35)) w2.heap.size W0.heap.size W s n cg xs a1 l1 c1 zs p2 := by
    have hs2 := hg.size
    have hb3 := (Below.refl w2.heap.size w2).alloc (Nat.le_refl _) (.cells #[.int .i64 W, .slice s n cg] 35)
    have cg' : ∀ {q : Addr} {v : Value}, q.block < W0.heap.size → W0.cell? q = some v → (w2.alloc (.cells #[.int .i64 W, .slice s n cg] 35)).cell? q = some v := fun {q v} h1 h2 => kept hb3 (by show q.block < w2.heap.size; omega) (hg.cell (kept hb.out h1 h2) (by simp; omega))
    have fg' : ∀ b, b < W0.heap.size → ∀ v, W0.cell? ⟨b, 0, none⟩ = some v → (∀ o, W0.frozen? ⟨b, o, none⟩ = false) → ∀ o, (w2.alloc (.cells #[.int .i64 W, .slice s n cg] 35)).frozen? ⟨b, o, none⟩ = false := fun b h1 v h2 h3 o => by
      rw [hb3.frozen (p := ⟨b, o, none⟩) (by show b < w2.heap.size; omega), frozen_grown hg (kept hb.out h1 h2) (by omega), hb.out.frozen (p := ⟨b, o, none⟩) h1]
      exact h3 o
    refine ⟨cg' (by simp; omega) cc.out.1, cg' (by simp; omega) cc.out.2.1, cg' (by simp; omega) cc.out.2.2.1, cg' (by simp; omega) cc.out.2.2.2.1, cg' (by simp; omega) cc.out.2.2.2.2.1, cg' (by simp; omega) cc.out.2.2.2.2.2, fg' _ (by omega) _ cc.out.1 ff.out.1, fg' _ (by omega) _ cc.out.2.2.1 ff.out.2, by simp, by simp, hR.row.bel hb3, hr2.bel hb3, ?_, by omega, by omega, fun b off e h0 => by have := hf b off e h0; omega⟩
    exact (grown_cut (bb.out.trans (hb.out.mono bb.out.size)) hg (by omega) (by omega)).trans (hb3.mono (by omega))
  have hD := Lib.hid (hA.bel (Below.refl _ _).drew)
  have y0 := hA.b0
  have y1 := hA.b1
  have x0 := hD.out.b0
  have x1 := hD.out.b1
  have hne0 : w2.heap.size ≠ w.heap.size := by have := hg.size; omega
  have hne1 : w2.heap.size ≠ w.heap.size + 1 := by have := hg.size; omega
  clear hA hR hg hf hr2 hr hb h0 cc ff bb hrlt hs0
  go_wp2_with fail
  go_region_held3 (fun W' => W'.cell? ⟨w2.heap.size, 0, none⟩ = some (.int .i64 W) ∧ W'.cell? ⟨w2.heap.size, 1, none⟩ = some (.slice s n cg))
    (first | (with_reducible exact ⟨x0, x1⟩) | (with_reducible exact ⟨c0, c1⟩) | ((simp only [off2 hne0, off2 hne1]); exact ⟨c0, c1⟩))
    ((go_at_call 90; refine (switch_any _ a1 l1 c1 zs p2 W s n cg xs _ hD.out.rd (by omega) hD.out.row (by omega)).mono ?_; rintro e w8 ⟨A, B, C, D, rfl, hv, hg8, q8, hq8, hr8⟩; have hE := hD.out.pick hr8 hg8; have c0 := hE.b0; have c1 := hE.b1; have k0 := hE.x0; have k1 := hE.x1; have m0 := hE.y0; have m1 := hE.y1; have m2 := hE.y2; have m3 := hE.y3; have kf := hE.xf; have mf := hE.yf; have hE := Lib.hid hE; clear hr8 hg8))
  go_wp2_with fail
  refine bodyPost_ret (v := .tuple #[.agg #[.int .i64 W, .slice s n cg], .agg #[.int .i64 A, .int .i64 B, .int .i64 C, .int .i64 D]]) (by simp [results, Try.results77, go_sem, k0, k1, m0, m1, m2, m3]) rfl ?_
  exact hE.out.out hn hv

set_option maxHeartbeats 1000000 in
theorem draw_DrawSwitchDo (a : Option Addr) (len cap : Nat) (zs : List Int) (w : World) (h : Bys w a len zs) (hl : len ≤ cap) (hm : cap ≤ 9223372036854775807) :
    Calls Try.prog 39 #[.slice a len cap] w (DrawnSw w) := by
  obtain ⟨W0, hW0⟩ : ∃ W0, W0 = (w.alloc (.cells #[.int .i64 0, .slice none 0 0] 35)).alloc (.cells #[.int .i64 0, .int .i64 0, .int .i64 0, .int .i64 0] 48) := ⟨_, rfl⟩
  have bb : Below w.heap.size w W0 := by subst hW0; exact ((Below.refl _ _).alloc (Nat.le_refl _) _).alloc (by simp) _
  have h0 := h.bel ((Below.mono bb (Nat.le_refl _)))
  have hs0 : W0.heap.size = w.heap.size + 2 := by subst hW0; simp
  have cc : W0.cell? ⟨w.heap.size, 0, none⟩ = some (.int .i64 0) ∧ W0.cell? ⟨w.heap.size, 1, none⟩ = some (.slice none 0 0) ∧ W0.cell? ⟨w.heap.size + 1, 0, none⟩ = some (.int .i64 0) ∧ W0.cell? ⟨w.heap.size + 1, 1, none⟩ = some (.int .i64 0) ∧ W0.cell? ⟨w.heap.size + 1, 2, none⟩ = some (.int .i64 0) ∧ W0.cell? ⟨w.heap.size + 1, 3, none⟩ = some (.int .i64 0) := by
    subst hW0; simp
  have ff : (∀ o, W0.frozen? ⟨w.heap.size, o, none⟩ = false) ∧ (∀ o, W0.frozen? ⟨w.heap.size + 1, o, none⟩ = false) := by
    subst hW0; simp
  replace cc := Lib.hid cc
  replace h0 := Lib.hid h0
  replace bb := Lib.hid bb
  replace hs0 := Lib.hid hs0
  replace ff := Lib.hid ff
  clear h
  go_enter Try.func39, Try.ntmps39
  go_wp2_with fail
  rw [← hW0]
  clear hW0
  refine (draw_DrawSwitchOk a len cap zs _ h0.out hl hm).mono ?_
  replace hs0 := hs0.out
  replace bb := bb.out
  rintro e w1 ⟨W, s, n, cg, xs, A, B, C, D, rfl, hR, hn, hv, hsrc, hb⟩
  have k0 := kept hb (by simp; omega) cc.out.1
  have k1 := kept hb (by simp; omega) cc.out.2.1
  have m0 := kept hb (by simp; omega) cc.out.2.2.1
  have m1 := kept hb (by simp; omega) cc.out.2.2.2.1
  have m2 := kept hb (by simp; omega) cc.out.2.2.2.2.1
  have m3 := kept hb (by simp; omega) cc.out.2.2.2.2.2
  have kf : ∀ o, w1.frozen? ⟨w.heap.size, o, none⟩ = false := fun o => (hb.frozen (p := ⟨w.heap.size, o, none⟩) (by show w.heap.size < _; omega)).trans (ff.out.1 o)
  have mf : ∀ o, w1.frozen? ⟨w.heap.size + 1, o, none⟩ = false := fun o => (hb.frozen (p := ⟨w.heap.size + 1, o, none⟩) (by show w.heap.size + 1 < _; omega)).trans (ff.out.2 o)
  have bl := Lib.hid (bb.trans (hb.mono bb.size))
  replace hR := Lib.hid hR
  have hsrc := Lib.hid (fun b off e h0 => (show w.heap.size + 1 < b by have := hsrc b off e h0; omega))
  clear hb cc ff bb h0 hs0
  go_wp2_with fail
  refine bodyPost_ret (v := .tuple #[.agg #[.int .i64 W, .slice s n cg], .agg #[.int .i64 A, .int .i64 B, .int .i64 C, .int .i64 D]]) (by simp [results, Try.results39, go_sem, k0, k1, m0, m1, m2, m3]) rfl ?_
  refine ⟨W, s, n, cg, xs, A, B, C, D, rfl, ?_, hn, hv, fun b off e hl => by have := hsrc.out b off e hl; omega, (((((bl.out.setCell (by simp) _).setCell (by simp) _).setCell (by simp) _).setCell (by simp) _).setCell (by simp) _).setCell (by simp) _⟩
  have h1 := hR.out.apart (grown_set (v := (.int .i64 W)) (j := 0) (World.grownBy.refl w1 (some w.heap.size))) (fun b off e hl => by have := hsrc.out b off e hl; simp; omega)
  have h2 := h1.apart (grown_set (v := (.slice s n cg)) (j := 1) (World.grownBy.refl _ (some w.heap.size))) (fun b off e hl => by have := hsrc.out b off e hl; simp; omega)
  exact h2.apart (grown_set (grown_set (grown_set (grown_set (World.grownBy.refl _ (some (w.heap.size + 1))))))) (fun b off e hl => by have := hsrc.out b off e hl; simp; omega)

end Go.Proofs.Ytemmfnlnhekclaa

namespace Go.Proofs.Ytemmfnlnhekclaa
set_option maxRecDepth 100000
open Go.RowKit

theorem ok_ok {W : Int} {xs : List Int} {A B C D : Int} {b : Bool} (hb : okB W xs A B C D = b) {n : Nat} (hn : n ≤ 6) (s : Option Addr) (cg : Nat) (w : World) (hR : Row w s n xs) :
    Calls Try.prog 78 #[.agg #[.int .i64 W, .slice s n cg], .agg #[.int .i64 A, .int .i64 B, .int .i64 C, .int .i64 D]] w fun e w' => e = .returned (.bool b) ∧ Below w.heap.size w w' := by
  subst hb; exact swok_impl W s n cg xs A B C D w hR (by omega)
theorem oks_ok {W : Int} {xs : List Int} {A B C D : Int} {b : Bool} (hb : okB W xs A B C D = b) {n : Nat} (hn : n ≤ 6) (s : Option Addr) (cg : Nat) (w : World) (hR : Row w s n xs) :
    Calls Try.prog 80 #[.agg #[.int .i64 W, .slice s n cg], .agg #[.int .i64 A, .int .i64 B, .int .i64 C, .int .i64 D]] w fun e w' => e = .returned (.bool b) ∧ Below w.heap.size w w' := by
  subst hb; exact swok_spec W s n cg xs A B C D w hR (by omega)
theorem do_ok {W n : Nat} {xs L : List Int} (h : Im W n xs) {A B C D : Nat} (hk : okB W xs A B C D = true) (hL : flL xs W n A B C D = L) (s : Option Addr) (cg : Nat) (w : World) (hR : Row w s n xs) :
    Calls Try.prog 40 #[.agg #[.int .i64 W, .slice s n cg], .agg #[.int .i64 A, .int .i64 B, .int .i64 C, .int .i64 D]] w (GivesI w W n L) := by
  have hc := swdo_impl W s n cg xs A B C D w hR (by have := h.l6; omega)
  rw [doOut_yes h hk, hL] at hc
  exact hc.mono fun e w' hg => hg.ok (by rw [← hL]; exact fll_len _ _ _ _ _ _ _)
theorem dos_ok {W n : Nat} {xs L : List Int} (h : Im W n xs) {A B C D : Nat} (hk : okB W xs A B C D = true) (hL : flL xs W n A B C D = L) (s : Option Addr) (cg : Nat) (w : World) (hR : Row w s n xs) :
    Calls Try.prog 41 #[.agg #[.int .i64 W, .slice s n cg], .agg #[.int .i64 A, .int .i64 B, .int .i64 C, .int .i64 D]] w (GivesI w W n L) := by
  have hc := swdo_spec W s n cg xs A B C D w hR (by have := h.l6; omega)
  rw [doOut_yes h hk, hL] at hc
  exact hc.mono fun e w' hg => hg.ok (by rw [← hL]; exact fll_len _ _ _ _ _ _ _)
theorem do_no {W : Int} {xs : List Int} {A B C D : Int} (h : okB W xs A B C D = false) {n : Nat} (hn : n ≤ 6) (s : Option Addr) (cg : Nat) (w : World) (hR : Row w s n xs) :
    Calls Try.prog 40 #[.agg #[.int .i64 W, .slice s n cg], .agg #[.int .i64 A, .int .i64 B, .int .i64 C, .int .i64 D]] w (GivesN w) := by
  have hc := swdo_impl W s n cg xs A B C D w hR (by omega)
  rw [doOut_no h] at hc
  exact hc
theorem dos_no {W : Int} {xs : List Int} {A B C D : Int} (h : okB W xs A B C D = false) {n : Nat} (hn : n ≤ 6) (s : Option Addr) (cg : Nat) (w : World) (hR : Row w s n xs) :
    Calls Try.prog 41 #[.agg #[.int .i64 W, .slice s n cg], .agg #[.int .i64 A, .int .i64 B, .int .i64 C, .int .i64 D]] w (GivesN w) := by
  have hc := swdo_spec W s n cg xs A B C D w hR (by omega)
  rw [doOut_no h] at hc
  exact hc
theorem okB_valid {W : Int} {xs : List Int} {A B C D : Int} (h : okB W xs A B C D = true) : validB W xs = true := by
  unfold okB at h; rw [Bool.and_eq_true] at h; exact h.1

/- Plain facts. -/
theorem oth_cell {W n : Nat} {xs : List Int} (h : Im W n xs) {i j : Nat} (hi : i < n) (hj : j < W) : cellOf (othL xs W n) i j = !cellOf xs i j := by
  apply bI_inj
  rw [← cell_bit, h.oth_bit hi hj, bI_not, cell_bit]
theorem manyc_turn {W n : Nat} {xs : List Int} (h : Im W n xs) : manyC (cellOf (turnL xs W n)) n W = manyC (cellOf xs) W n := by
  rw [← many_turn (cellOf xs) W n]
  exact many_ext fun i j hi hj => turn_cell h hj hi
theorem manyc_mir {W n : Nat} {xs : List Int} (h : Im W n xs) : manyC (cellOf (mirL xs W n)) W n = manyC (cellOf xs) W n := by
  rw [← many_mirror (cellOf xs) W n]
  exact many_ext fun i j hi hj => mir_cell h hi hj
theorem manyc_oth {W n : Nat} {xs : List Int} (h : Im W n xs) : manyC (cellOf (othL xs W n)) W n = manyC (cellOf xs) W n := by
  rw [← many_other (cellOf xs) W n]
  exact many_ext fun i j hi hj => oth_cell h hi hj
theorem ok_turn {W n : Nat} {xs : List Int} (h : Im W n xs) {A B C D : Nat} (h1 : A < B) (h2 : B < n) (h3 : C < D) (h4 : D < W) (hs : swC (cellOf xs) A B C D = true) : okB n (turnL xs W n) C D A B = true := by
  rw [okB_yes h.turn h3 h4 h1 h2, sw_turned h (by omega) h2 (by omega) h4]; exact hs
theorem ok_oth {W n : Nat} {xs : List Int} (h : Im W n xs) {A B C D : Nat} (h1 : A < B) (h2 : B < n) (h3 : C < D) (h4 : D < W) (hs : swC (cellOf xs) A B C D = true) : okB W (othL xs W n) A B C D = true := by
  rw [okB_yes h.oth h1 h2 h3 h4, ← hs, ← sw_other (c := cellOf xs)]
  exact sw_ext (oth_cell h (by omega) (by omega)) (oth_cell h (by omega) (by omega)) (oth_cell h (by omega) (by omega)) (oth_cell h (by omega) (by omega))
theorem ok_mir {W n : Nat} {xs : List Int} (h : Im W n xs) {A B C D : Nat} (h1 : A < B) (h2 : B < n) (h3 : C < D) (h4 : D < W) (hs : swC (cellOf xs) A B C D = true) : okB W (mirL xs W n) A B ((W : Int) - 1 - D) ((W : Int) - 1 - C) = true := by
  rw [show (W : Int) - 1 - D = ((W - 1 - D : Nat) : Int) by omega, show (W : Int) - 1 - C = ((W - 1 - C : Nat) : Int) by omega]
  rw [okB_yes h.mir h1 h2 (by omega) (by omega), ← hs, ← sw_mirror (c := cellOf xs) (show C < W by omega) h4]
  exact sw_ext (mir_cell h (by omega) (by omega)) (mir_cell h (by omega) (by omega)) (mir_cell h (by omega) (by omega)) (mir_cell h (by omega) (by omega))
theorem ok_done {W n : Nat} {xs : List Int} (h : Im W n xs) {A B C D : Nat} (h1 : A < B) (h2 : B < n) (h3 : C < D) (h4 : D < W) (hs : swC (cellOf xs) A B C D = true) : okB W (flL xs W n A B C D) A B C D = true := by
  rw [okB_yes (fl_im h A B C D) h1 h2 h3 h4, sw_done h (by omega) h2 (by omega) h4]; exact hs
end Go.Proofs.Ytemmfnlnhekclaa
