/-
  The contracts of the model's functions that list switches, count them and do them; lists of switches as they lie in memory.
-/
import Derived.Test.YtgbbigekamapiaaRi
import Derived.Deep.RegionHeld3
namespace Go.Proofs.Ytgbbigekamapiaa
set_option maxRecDepth 100000
open Go.RowKit

/-- A list of switches that the call owns. -/
def OwnS (w : World) (B : Nat) (a : Option Addr) (n cap : Nat) (L : List SwT) : Prop := w.ownsRow B 42 4 (.slice a n cap) n ((flatS L).map (Value.int .i64))
/-- A list of switches, to be read. -/
def SRow (w : World) (a : Option Addr) (n : Nat) (L : List SwT) : Prop :=
  L.length = n ∧ (n = 0 ∨ ∃ g, a = some ⟨g, 0, none⟩ ∧ ∀ q (h : q < L.length), w.cell? ⟨g, q * 4, none⟩ = some (.int .i64 L[q].1) ∧ w.cell? ⟨g, q * 4 + 1, none⟩ = some (.int .i64 L[q].2.1) ∧ w.cell? ⟨g, q * 4 + 2, none⟩ = some (.int .i64 L[q].2.2.1) ∧ w.cell? ⟨g, q * 4 + 3, none⟩ = some (.int .i64 L[q].2.2.2))
theorem OwnS.len {w : World} {B n cap : Nat} {a : Option Addr} {L : List SwT} (h : OwnS w B a n cap L) : L.length = n := by
  have := h.1
  rw [List.length_map, sflat_len] at this
  omega
theorem OwnS.row {w : World} {B n cap : Nat} {a : Option Addr} {L : List SwT} (h : OwnS w B a n cap L) : SRow w a n L := by
  have hl := h.len
  refine ⟨hl, ?_⟩
  rcases h.2 with ⟨_, h0⟩ | ⟨g, c, cur, e, _⟩
  · exact .inl h0
  · right
    simp only [Value.slice.injEq] at e
    obtain ⟨rfl, _, rfl⟩ := e
    refine ⟨g, rfl, fun q hq => ?_⟩
    have hf := sflat_len L
    have cell : ∀ j, j < n * 4 → w.cell? ⟨g, j, none⟩ = some (.int .i64 ((flatS L).getD j 0)) := fun j hj => by
      rw [World.ownsRow.cellAt h j (by omega), List.getElem?_map, List.getElem?_eq_getElem (by omega), getD_elem (by omega)]; rfl
    have hg := sflat_get L q hq
    exact ⟨by rw [cell _ (by omega), hg.1], by rw [cell _ (by omega), hg.2.1], by rw [cell _ (by omega), hg.2.2.1], by rw [cell _ (by omega), hg.2.2.2]⟩
theorem OwnS.bel {w w' : World} {B n cap : Nat} {a : Option Addr} {L : List SwT} (h : OwnS w B a n cap L) (hb : Below w.heap.size w w') : OwnS w' B a n cap L := (Spare.below (M := Free 0) hb (Nat.le_refl _)).frow h
theorem OwnS.mono {w : World} {B B' n cap : Nat} {a : Option Addr} {L : List SwT} (h : OwnS w B a n cap L) (hB : B' ≤ B) : OwnS w B' a n cap L :=
  ⟨h.1, h.2.imp id fun ⟨g, c, cur, e1, e2, r⟩ => ⟨g, c, cur, e1, by omega, r⟩⟩
theorem SRow.bel {w w' : World} {a : Option Addr} {n : Nat} {L : List SwT} (h : SRow w a n L) (hb : Below w.heap.size w w') : SRow w' a n L :=
  ⟨h.1, h.2.imp id fun ⟨g, e, hc⟩ => ⟨g, e, fun q hq => by
    have hh := hc q hq
    exact ⟨kept hb (block_lt hh.1) hh.1, kept hb (block_lt hh.2.1) hh.2.1, kept hb (block_lt hh.2.2.1) hh.2.2.1, kept hb (block_lt hh.2.2.2) hh.2.2.2⟩⟩⟩
def GivesO (w : World) (L : List SwT) (e : Ending) (w' : World) : Prop :=
  (∃ a cap, e = .returned (.slice a L.length cap) ∧ OwnS w' w.heap.size a L.length cap L) ∧ Below w.heap.size w w'
theorem GivesX.own {w w' : World} {L : List SwT} {e : Ending} (h : GivesX w L e w') : GivesO w L e w' := by
  obtain ⟨⟨v, he, ho⟩, hb⟩ := h
  refine ⟨?_, hb⟩
  have h2 := ho
  rcases h2.2 with ⟨rfl, h0⟩ | ⟨g, c, cur, rfl, _⟩
  · exact ⟨none, 0, by rw [h0]; exact he, by rw [h0] at ho ⊢; exact ho⟩
  · exact ⟨some ⟨g, 0, none⟩, c, he, ho⟩
theorem swlist_ok (W : Int) (a : Option Addr) (n cap : Nat) (xs : List Int) (w : World) (h : Row w a n xs) (hm : n ≤ 9223372036854775807) :
    Calls Try.prog 39 #[.agg #[.int .i64 W, .slice a n cap]] w (GivesO w (listS W xs)) := (swlist_impl W a n cap xs w h hm).mono fun _ _ h => h.own

set_option maxHeartbeats 1000000 in
theorem swlist_spec (W : Int) (a : Option Addr) (n cap : Nat) (xs : List Int) (w : World) (h : Row w a n xs) (hm : n ≤ 9223372036854775807) :
    Calls Try.prog 74 #[.agg #[.int .i64 W, .slice a n cap]] w (GivesO w (listS W xs)) := by
  have hl := h.1
  by_cases hv : validB W xs = true
  · have h1 := validB_W hv
    obtain ⟨W, rfl⟩ := Int.eq_ofNat_of_zero_le (by omega : 0 ≤ W)
    rw [show listS W xs = swL (cellOf xs) W n by rw [← hl]; exact if_pos hv]
    exact (listx_any W a n cap xs w h (Im.of hv hl)).mono fun _ _ h => h.own
  have hv : validB W xs = false := by simpa using hv
  rw [show listS W xs = [] by unfold listS; rw [if_neg (by rw [hv]; simp)]]
  obtain ⟨W0, hW0⟩ : ∃ W0, W0 = (w.alloc (.cells #[.int .i64 W, .slice a n cap] 25)).alloc (.cells #[] 42) := ⟨_, rfl⟩
  have bb : Below w.heap.size w W0 := by subst hW0; exact ((Below.refl _ _).alloc (Nat.le_refl _) _).alloc (by simp) _
  have ho : OwnS W0 (w.heap.size + 1) (some ⟨w.heap.size + 1, 0, none⟩) 0 0 [] := by
    subst hW0
    have := World.ownsRow_lit (base := w.heap.size + 1) (e := 42) (size := 4) (w.alloc (.cells #[.int .i64 W, .slice a n cap] 25)) #[] 0 (by simp) (by decide) rfl
    simpa [OwnS, flatS] using this
  have r := Lib.hid (h.bel bb)
  replace ho := Lib.hid ho
  go_enter Try.func74, Try.ntmps74
  go_wp2_with fail
  rw [← hW0]
  clear hW0
  refine (valid_spec _ _ _ _ xs _ r.out hm).mono ?_
  rintro e w1 ⟨rfl, hb⟩
  rw [hv]
  go_wp2_with fail
  go_ret
  exact ⟨⟨_, _, rfl, (ho.out.bel hb).mono (by omega)⟩, bb.trans (hb.mono bb.size)⟩

set_option maxHeartbeats 1000000 in
theorem swdo_spec (W : Int) (a : Option Addr) (n cap : Nat) (xs : List Int) (A B C D : Int) (w : World) (h : Row w a n xs) (hm : n ≤ 9223372036854775807) :
    Calls Try.prog 34 #[.agg #[.int .i64 W, .slice a n cap], .agg #[.int .i64 A, .int .i64 B, .int .i64 C, .int .i64 D]] w (Gives w (doOut W xs A B C D)) := by
  obtain ⟨W0, hW0⟩ : ∃ W0, W0 = ((w.alloc (.cells #[.int .i64 W, .slice a n cap] 25)).alloc (.cells #[.int .i64 A, .int .i64 B, .int .i64 C, .int .i64 D] 42)).alloc (.cells #[.int .i64 0, .slice none 0 0] 25) := ⟨_, rfl⟩
  have bb : Hid (Below w.heap.size w W0) := by subst hW0; exact (((Below.refl _ _).alloc (Nat.le_refl _) _).alloc (by simp) _).alloc (by simp; omega) _
  have x0 : W0.cell? ⟨w.heap.size, 0, none⟩ = some (.int .i64 W) := by subst hW0; go_simp
  have x1 : W0.cell? ⟨w.heap.size, 1, none⟩ = some (.slice a n cap) := by subst hW0; go_simp
  have s0 : W0.cell? ⟨w.heap.size + 1, 0, none⟩ = some (.int .i64 A) := by subst hW0; go_simp
  have s1 : W0.cell? ⟨w.heap.size + 1, 1, none⟩ = some (.int .i64 B) := by subst hW0; go_simp
  have s2 : W0.cell? ⟨w.heap.size + 1, 2, none⟩ = some (.int .i64 C) := by subst hW0; go_simp
  have s3 : W0.cell? ⟨w.heap.size + 1, 3, none⟩ = some (.int .i64 D) := by subst hW0; go_simp
  have y0 : W0.cell? ⟨w.heap.size + 1 + 1, 0, none⟩ = some (.int .i64 0) := by subst hW0; go_simp
  have y1 : W0.cell? ⟨w.heap.size + 1 + 1, 1, none⟩ = some (.slice none 0 0) := by subst hW0; go_simp
  have yf : ∀ o, W0.frozen? ⟨w.heap.size + 1 + 1, o, none⟩ = false := fun o => by subst hW0; go_simp
  have r := Lib.hid (h.bel bb.out)
  clear h
  have l0 := block_lt y0
  simp only at l0
  have hl := Lib.hid r.out.1
  by_cases ho : okB W xs A B C D = true
  case neg =>
    have ho : okB W xs A B C D = false := by simpa using ho
    rw [doOut_no ho]
    go_enter Try.func34, Try.ntmps34
    go_wp2_with fail
    rw [← hW0]
    clear hW0
    refine (swok_spec _ _ _ _ xs _ _ _ _ _ r.out hm).mono ?_
    rintro e w1 ⟨rfl, hb⟩
    rw [ho]
    replace yf : ∀ o, w1.frozen? ⟨w.heap.size + 1 + 1, o, none⟩ = false := fun o => (hb.frozen (p := ⟨w.heap.size + 1 + 1, o, none⟩) l0).trans (yf o)
    have szw1 := hb.size
    replace x0 := kept hb (block_lt x0) x0
    replace x1 := kept hb (block_lt x1) x1
    replace s0 := kept hb (block_lt s0) s0
    replace s1 := kept hb (block_lt s1) s1
    replace s2 := kept hb (block_lt s2) s2
    replace s3 := kept hb (block_lt s3) s3
    replace y0 := kept hb (block_lt y0) y0
    replace y1 := kept hb (block_lt y1) y1
    replace r := Lib.hid (r.out.bel hb)
    replace bb := Lib.hid (bb.out.trans (hb.mono bb.out.size))
    clear hb
    go_wp2_with fail
    refine bodyPost_ret (v := .tuple #[.agg #[.int .i64 0, .slice none 0 0], .bool false]) (by simp [results, Try.results34, go_sem, y0, y1]) rfl ?_
    exact ⟨⟨none, 0, rfl, own_nil _ _⟩, (bb.out.setCell (by simp; omega) _).setCell (by simp; omega) _⟩
  have hvv : validB W xs = true := by simp only [okB, Bool.and_eq_true] at ho; exact ho.1
  have hI0 := validB_W hvv
  obtain ⟨W, rfl⟩ := Int.eq_ofNat_of_zero_le (by omega : 0 ≤ W)
  have hI : Im W n xs := Im.of hvv hl.out
  have ho' := ho
  obtain ⟨A, B, C, D, rfl, rfl, rfl, rfl, h1, h2, h3, h4, hs⟩ := okB_im hI ho'
  rw [doOut_yes hI ho]
  replace hI := Lib.hid hI
  replace hs := Lib.hid hs
  clear ho' hvv hI0
  go_enter Try.func34, Try.ntmps34
  go_wp2_with fail
  rw [← hW0]
  clear hW0
  refine (swok_spec _ _ _ _ xs _ _ _ _ _ r.out hm).mono ?_
  rintro e w1 ⟨rfl, hb⟩
  rw [ho]
  clear ho
  replace yf : ∀ o, w1.frozen? ⟨w.heap.size + 1 + 1, o, none⟩ = false := fun o => (hb.frozen (p := ⟨w.heap.size + 1 + 1, o, none⟩) l0).trans (yf o)
  have szw1 := hb.size
  replace x0 := kept hb (block_lt x0) x0
  replace x1 := kept hb (block_lt x1) x1
  replace s0 := kept hb (block_lt s0) s0
  replace s1 := kept hb (block_lt s1) s1
  replace s2 := kept hb (block_lt s2) s2
  replace s3 := kept hb (block_lt s3) s3
  replace y0 := kept hb (block_lt y0) y0
  replace y1 := kept hb (block_lt y1) y1
  replace r := Lib.hid (r.out.bel hb)
  replace bb := Lib.hid (bb.out.trans (hb.mono bb.out.size))
  clear hb
  have l1 := block_lt y0
  simp only at l1
  go_wp2_with fail
  refine (dox_any W a n cap xs A B C D _ r.out hI.out h1 h2 h3 h4 hs.out).mono ?_
  rintro e w2 ⟨⟨ag, cg, rfl, ho⟩, hb⟩
  have hz1 := bb.out.size
  replace yf : ∀ o, w2.frozen? ⟨w.heap.size + 1 + 1, o, none⟩ = false := fun o => (hb.frozen (p := ⟨w.heap.size + 1 + 1, o, none⟩) l1).trans (yf o)
  have szw2 := hb.size
  replace x0 := kept hb (block_lt x0) x0
  replace x1 := kept hb (block_lt x1) x1
  replace s0 := kept hb (block_lt s0) s0
  replace s1 := kept hb (block_lt s1) s1
  replace s2 := kept hb (block_lt s2) s2
  replace s3 := kept hb (block_lt s3) s3
  replace y0 := kept hb (block_lt y0) y0
  replace y1 := kept hb (block_lt y1) y1
  replace r := Lib.hid (r.out.bel hb)
  replace bb := Lib.hid (bb.out.trans (hb.mono bb.out.size))
  clear hb
  replace ho := Lib.hid ho
  go_wp2_with fail
  refine bodyPost_ret (v := .tuple #[.agg #[.int .i64 W, .slice ag n cg], .bool true]) (by simp [results, Try.results34, go_sem, y0, y1]) rfl ?_
  refine ⟨⟨ag, cg, by rw [fll_len], ?_⟩, (bb.out.setCell (by simp; omega) _).setCell (by simp; omega) _⟩
  show OwnI _ _ _ (flL xs W n A B C D).length _ (flL xs W n A B C D)
  rw [fll_len]
  exact ((ho.out.store l1 _).store l1 _).mono hz1

theorem keep6 {u v : World} {p0 p1 p2 p3 p4 p5 : Addr} {v0 v1 v2 v3 v4 v5 : Value} (hb : Below u.heap.size u v) (h : u.cell? p0 = some v0 ∧ u.cell? p1 = some v1 ∧ u.cell? p2 = some v2 ∧ u.cell? p3 = some v3 ∧ u.cell? p4 = some v4 ∧ u.cell? p5 = some v5) : v.cell? p0 = some v0 ∧ v.cell? p1 = some v1 ∧ v.cell? p2 = some v2 ∧ v.cell? p3 = some v3 ∧ v.cell? p4 = some v4 ∧ v.cell? p5 = some v5 :=
  ⟨kept hb (block_lt h.1) h.1, keep5 hb h.2⟩
theorem put6 {u : World} {k b g o0 o1 : Nat} {x0 x1 v0 v1 v2 v3 v4 v5 : Value} (hb : b ≠ k) (hg : g ≠ k) (h : u.cell? ⟨b, 0, none⟩ = some v0 ∧ u.cell? ⟨b, 1, none⟩ = some v1 ∧ u.cell? ⟨g, 0, none⟩ = some v2 ∧ u.cell? ⟨g, 1, none⟩ = some v3 ∧ u.cell? ⟨g, 2, none⟩ = some v4 ∧ u.cell? ⟨g, 3, none⟩ = some v5) :
    ((u.setCell ⟨k, o0, none⟩ x0).setCell ⟨k, o1, none⟩ x1).cell? ⟨b, 0, none⟩ = some v0 ∧ ((u.setCell ⟨k, o0, none⟩ x0).setCell ⟨k, o1, none⟩ x1).cell? ⟨b, 1, none⟩ = some v1 ∧ ((u.setCell ⟨k, o0, none⟩ x0).setCell ⟨k, o1, none⟩ x1).cell? ⟨g, 0, none⟩ = some v2 ∧ ((u.setCell ⟨k, o0, none⟩ x0).setCell ⟨k, o1, none⟩ x1).cell? ⟨g, 1, none⟩ = some v3 ∧ ((u.setCell ⟨k, o0, none⟩ x0).setCell ⟨k, o1, none⟩ x1).cell? ⟨g, 2, none⟩ = some v4 ∧ ((u.setCell ⟨k, o0, none⟩ x0).setCell ⟨k, o1, none⟩ x1).cell? ⟨g, 3, none⟩ = some v5 := by
  have o : ∀ {q o : Nat} {v : Value}, q ≠ k → u.cell? ⟨q, o, none⟩ = some v → ((u.setCell ⟨k, o0, none⟩ x0).setCell ⟨k, o1, none⟩ x1).cell? ⟨q, o, none⟩ = some v := fun hq hc =>
    (World.cell?_of_block (Below.heap_setCell _ _ _ _ hq)).trans ((World.cell?_of_block (Below.heap_setCell _ _ _ _ hq)).trans hc)
  exact ⟨o hb h.1, o hb h.2.1, o hg h.2.2.1, o hg h.2.2.2.1, o hg h.2.2.2.2.1, o hg h.2.2.2.2.2⟩

set_option maxHeartbeats 1000000 in
theorem swfirst_spec (W : Int) (a : Option Addr) (n cap : Nat) (xs : List Int) (w : World) (h : Row w a n xs) (hm : n ≤ 9223372036854775807) :
    Calls Try.prog 38 #[.agg #[.int .i64 W, .slice a n cap]] w (Gives w (firstOut W xs)) := by
  obtain ⟨W0, hW0⟩ : ∃ W0, W0 = (w.alloc (.cells #[.int .i64 W, .slice a n cap] 25)).alloc (.cells #[.int .i64 0, .slice none 0 0] 25) := ⟨_, rfl⟩
  have bb : Hid (Below w.heap.size w W0) := by subst hW0; exact ((Below.refl _ _).alloc (Nat.le_refl _) _).alloc (by simp) _
  have x0 : W0.cell? ⟨w.heap.size, 0, none⟩ = some (.int .i64 W) := by subst hW0; go_simp
  have x1 : W0.cell? ⟨w.heap.size, 1, none⟩ = some (.slice a n cap) := by subst hW0; go_simp
  have y0 : W0.cell? ⟨w.heap.size + 1, 0, none⟩ = some (.int .i64 0) := by subst hW0; go_simp
  have y1 : W0.cell? ⟨w.heap.size + 1, 1, none⟩ = some (.slice none 0 0) := by subst hW0; go_simp
  have yf : ∀ o, W0.frozen? ⟨w.heap.size + 1, o, none⟩ = false := fun o => by subst hW0; go_simp
  have r := Lib.hid (h.bel bb.out)
  clear h
  have l0 := block_lt y0
  simp only at l0
  have hl := Lib.hid r.out.1
  go_enter Try.func38, Try.ntmps38
  go_wp2_with fail
  rw [← hW0]
  clear hW0
  refine (swlist_spec _ _ _ _ xs _ r.out hm).mono ?_
  rintro e w1 ⟨⟨s, c, rfl, ho⟩, hb⟩
  replace yf : ∀ o, w1.frozen? ⟨w.heap.size + 1, o, none⟩ = false := fun o => (hb.frozen (p := ⟨w.heap.size + 1, o, none⟩) l0).trans (yf o)
  have szw1 := hb.size
  replace x0 := kept hb (block_lt x0) x0
  replace x1 := kept hb (block_lt x1) x1
  replace y0 := kept hb (block_lt y0) y0
  replace y1 := kept hb (block_lt y1) y1
  replace r := Lib.hid (r.out.bel hb)
  replace bb := Lib.hid (bb.out.trans (hb.mono bb.out.size))
  clear hb
  have hr := Lib.hid ho.row
  have hlt := Lib.hid (fun (g : Nat) (e : s = some ⟨g, 0, none⟩) => (World.ownsRow.lt ho g (by rw [e]; rfl)).1)
  clear ho
  obtain ⟨L, hL⟩ : ∃ L, listS W xs = L := ⟨_, rfl⟩
  rw [hL] at hr ⊢
  cases L with
  | nil =>
    replace hL := Lib.hid hL
    simp only [List.length_nil]
    go_wp2_with fail
    refine bodyPost_ret (v := .tuple #[.agg #[.int .i64 0, .slice none 0 0], .bool false]) (by simp [results, Try.results38, go_sem, y0, y1]) rfl ?_
    rw [firstOut_nil hL.out]
    exact ⟨⟨none, 0, rfl, own_nil _ _⟩, (bb.out.setCell (by simp) _).setCell (by simp) _⟩
  | cons q post =>
    obtain ⟨W', rfl, hI, h1, h2, h3, h4, hs⟩ := listS_im hl.out (show q ∈ listS W xs by rw [hL]; simp)
    obtain ⟨A, B, C, D⟩ := q
    simp only at h1 h2 h3 h4 hs
    obtain ⟨m, hm2⟩ : ∃ m, ((A, B, C, D) :: post).length = m + 1 := ⟨post.length, rfl⟩
    obtain ⟨g, rfl, hc⟩ := hr.out.2.resolve_left (by simp)
    have hc0 := hc 0 (by simp)
    simp only [Nat.zero_mul, Nat.zero_add, List.getElem_cons_zero] at hc0
    obtain ⟨c0, c1, c2, c3⟩ := hc0
    rw [hm2]
    have hgz := hlt.out g rfl
    have ng : g ≠ w.heap.size + 1 := by omega
    replace hI := Lib.hid hI
    replace hs := Lib.hid hs
    replace hL := Lib.hid hL
    replace hm2 := Lib.hid hm2
    clear hc hr
    have e0 : ((((m + 1 : Nat) : Int)) == 0) = false := by rw [beq_eq_false_iff_ne]; omega
    have e1 : (0 : Int) < ((m + 1 : Nat) : Int) := by omega
    have l1 := block_lt y0
    simp only at l1
    have bz := bb.out.size
    go_wp2_with fail
    go_region_held3 (fun U => U.cell? ⟨w.heap.size, 0, none⟩ = some (.int .i64 W') ∧ U.cell? ⟨w.heap.size, 1, none⟩ = some (.slice a n cap) ∧ U.cell? ⟨g, 0, none⟩ = some (.int .i64 A) ∧ U.cell? ⟨g, 1, none⟩ = some (.int .i64 B) ∧ U.cell? ⟨g, 2, none⟩ = some (.int .i64 C) ∧ U.cell? ⟨g, 3, none⟩ = some (.int .i64 D))
      (first | exact ⟨x0, x1, c0, c1, c2, c3⟩ | exact keep6 hb2 (by assumption) | exact put6 (by omega) ng (by assumption))
      (first | (go_at_call 71; refine (dox_any W' a n cap xs A B C D _ (r.out.bel ((Below.refl _ _).drew)) hI.out h1 h2 h3 h4 hs.out).mono ?_; rintro e w2 ⟨⟨ag, cg, rfl, ho⟩, hb2⟩; have hb : Below w1.heap.size w1 w2 := (((Below.refl _ _).drew).trans (hb2.mono (Nat.le_refl _))); have y0 := kept hb l1 y0; have y1 := kept hb l1 y1; replace yf : ∀ o, w2.frozen? ⟨w.heap.size + 1, o, none⟩ = false := fun o => (hb.frozen (p := ⟨w.heap.size + 1, o, none⟩) l1).trans (yf o); have bb := Lib.hid (bb.out.trans (hb.mono bb.out.size))))
    replace ho := Lib.hid ho
    go_wp2_with fail
    refine bodyPost_ret (v := .tuple #[.agg #[.int .i64 W', .slice ag n cg], .bool true]) (by simp [results, Try.results38, go_sem, y0, y1]) rfl ?_
    rw [firstOut_cons hL.out, Int.toNat_natCast, hl.out]
    have bb2 := bb.out
    refine ⟨⟨ag, cg, by rw [fll_len], ?_⟩, (bb2.setCell (by simp) _).setCell (by simp) _⟩
    show OwnI _ _ _ (flL xs W' n A B C D).length _ (flL xs W' n A B C D)
    rw [fll_len]
    exact ((ho.out.store (show w.heap.size + 1 < w1.drew.heap.size from l1) _).store (show w.heap.size + 1 < w1.drew.heap.size from l1) _).mono (show w.heap.size ≤ w1.drew.heap.size from bz)
end Go.Proofs.Ytgbbigekamapiaa

