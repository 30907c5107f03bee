/-
  The contract of the program's function that does a switch.
-/
import Derived.Test.YteejopkimlkhoaaRf
import Derived.Test.YteejopkimlkhoaaHc
import Derived.Deep.RegionHeld3
import Derived.Deep.DeepCutAuto
namespace Go.Proofs.Yteejopkimlkhoaa
set_option maxRecDepth 100000
open Go.RowKit

/-- What doing a switch gives. -/
def doOut (W : Int) (xs : List Int) (A B C D : Int) : Out := if okB W xs A B C D = true then ⟨true, W, flL xs W.toNat xs.length A.toNat B.toNat C.toNat D.toNat⟩ else .no
theorem doOut_no {W : Int} {xs : List Int} {A B C D : Int} (h : okB W xs A B C D = false) : doOut W xs A B C D = .no := if_neg (by rw [h]; simp)
theorem doOut_yes {W n : Nat} {xs : List Int} (h : Im W n xs) {A B C D : Nat} (ho : okB W xs A B C D = true) : doOut W xs A B C D = ⟨true, W, flL xs W n A B C D⟩ := by
  unfold doOut; rw [if_pos ho, h.hl]; rfl

/-- In the middle of doing a switch: the image's copy, at k, has its rows at g. -/
structure DoAt (w wr : World) (k g : Nat) (W n c : Nat) (A B C D : Nat) (ys : List Int) : Prop where
  s0 : wr.cell? ⟨w.heap.size + 1, 0, none⟩ = some (.int .i64 A)
  s1 : wr.cell? ⟨w.heap.size + 1, 1, none⟩ = some (.int .i64 B)
  s2 : wr.cell? ⟨w.heap.size + 1, 2, none⟩ = some (.int .i64 C)
  s3 : wr.cell? ⟨w.heap.size + 1, 3, none⟩ = some (.int .i64 D)
  y0 : wr.cell? ⟨w.heap.size + 1 + 1, 0, none⟩ = some (.int .i64 0)
  y1 : wr.cell? ⟨w.heap.size + 1 + 1, 1, none⟩ = some (.slice none 0 0)
  yf : ∀ o, wr.frozen? ⟨w.heap.size + 1 + 1, o, none⟩ = false
  b0 : wr.cell? ⟨k, 0, none⟩ = some (.int .i64 W)
  b1 : wr.cell? ⟨k, 1, none⟩ = some (.slice (some ⟨g, 0, none⟩) n c)
  own : OwnI wr (w.heap.size + 3) (some ⟨g, 0, none⟩) n c ys
  bel : Below w.heap.size w wr
  hk : w.heap.size + 2 < k
  hg : w.heap.size + 2 < g
  ne : k ≠ g
theorem DoAt.move {w wr w1 : World} {k g W n c A B C D : Nat} {ys : List Int} (h : DoAt w wr k g W n c A B C D ys) (hb : Below wr.heap.size wr w1) : DoAt w w1 k g W n c A B C D ys :=
  ⟨kept hb (block_lt h.s0) h.s0, kept hb (block_lt h.s1) h.s1, kept hb (block_lt h.s2) h.s2, kept hb (block_lt h.s3) h.s3, kept hb (block_lt h.y0) h.y0, kept hb (block_lt h.y1) h.y1,
    fun o => (hb.frozen (p := ⟨w.heap.size + 1 + 1, o, none⟩) (show w.heap.size + 1 + 1 < wr.heap.size from block_lt h.y0)).trans (h.yf o), kept hb (block_lt h.b0) h.b0, kept hb (block_lt h.b1) h.b1,
    h.own.bel hb, h.bel.trans (hb.mono h.bel.size), h.hk, h.hg, h.ne⟩
theorem DoAt.set {w wr : World} {k g W n c A B C D : Nat} {ys : List Int} (h : DoAt w wr k g W n c A B C D ys) (j : Nat) (u : Int) : DoAt w (wr.setCell ⟨g, j, none⟩ (.int .i64 u)) k g W n c A B C D (ys.set j u) := by
  have h1 := h.hg
  have h2 := h.ne
  have o : ∀ {b o : Nat} {v : Value}, b ≠ g → wr.cell? ⟨b, o, none⟩ = some v → (wr.setCell ⟨g, j, none⟩ (.int .i64 u)).cell? ⟨b, o, none⟩ = some v := fun hb hc => by
    rw [World.cell?_setCell_other _ _ _ _ (by first | (simp; done) | (simp; omega))]; exact hc
  exact ⟨o (by omega) h.s0, o (by omega) h.s1, o (by omega) h.s2, o (by omega) h.s3, o (by omega) h.y0, o (by omega) h.y1,
    fun o => (World.frozen?_of_block (a := ⟨w.heap.size + 1 + 1, o, none⟩) (Below.heap_setCell _ _ _ _ (by simp; omega))).trans (h.yf o), o h2 h.b0, o h2 h.b1,
    h.own.set j u, h.bel.setCell (show w.heap.size ≤ g by omega) _, h.hk, h.hg, h.ne⟩
theorem DoAt.of1 {w w1 w2 : World} {g Wb n c A B C D : Nat} {ys : List Int} (s0 : w1.cell? ⟨w.heap.size + 1, 0, none⟩ = some (.int .i64 A)) (s1 : w1.cell? ⟨w.heap.size + 1, 1, none⟩ = some (.int .i64 B)) (s2 : w1.cell? ⟨w.heap.size + 1, 2, none⟩ = some (.int .i64 C)) (s3 : w1.cell? ⟨w.heap.size + 1, 3, none⟩ = some (.int .i64 D))
    (y0 : w1.cell? ⟨w.heap.size + 1 + 1, 0, none⟩ = some (.int .i64 0)) (y1 : w1.cell? ⟨w.heap.size + 1 + 1, 1, none⟩ = some (.slice none 0 0)) (yf : ∀ o, w1.frozen? ⟨w.heap.size + 1 + 1, o, none⟩ = false) (bb : Below w.heap.size w w1) (lz : w.heap.size + 2 < w1.heap.size)
    (hb : Below w1.heap.size w1 w2) (hg : w1.heap.size ≤ g) (ho : OwnI w2 w1.heap.size (some ⟨g, 0, none⟩) n c ys) :
    DoAt w (w2.alloc (.cells #[.int .i64 Wb, .slice (some ⟨g, 0, none⟩) n c] 25)) w2.heap.size g Wb n c A B C D ys := by
  have hz := hb.size
  have hgl : g < w2.heap.size := by
    rcases ho.cases with ⟨h, _⟩ | ⟨g', e, _, h⟩
    · cases h
    · cases e; exact h
  have hB : Below w1.heap.size w1 (w2.alloc (.cells #[.int .i64 Wb, .slice (some ⟨g, 0, none⟩) n c] 25)) := hb.alloc hz _
  exact ⟨kept hB (block_lt s0) s0, kept hB (block_lt s1) s1, kept hB (block_lt s2) s2, kept hB (block_lt s3) s3, kept hB (block_lt y0) y0, kept hB (block_lt y1) y1, fun o => (hB.frozen (p := ⟨w.heap.size + 1 + 1, o, none⟩) (show w.heap.size + 1 + 1 < w1.heap.size by omega)).trans (yf o),
    by simp, by simp, (ho.bel ((Below.refl _ _).alloc (Nat.le_refl _) _)).mono (by omega), bb.trans (hB.mono bb.size), by omega, by omega, by omega⟩
theorem DoAt.of2 {w w1 w2 : World} {g Wb n c A B C D : Nat} {ys : List Int} (s0 : w1.cell? ⟨w.heap.size + 1, 0, none⟩ = some (.int .i64 A)) (s1 : w1.cell? ⟨w.heap.size + 1, 1, none⟩ = some (.int .i64 B)) (s2 : w1.cell? ⟨w.heap.size + 1, 2, none⟩ = some (.int .i64 C)) (s3 : w1.cell? ⟨w.heap.size + 1, 3, none⟩ = some (.int .i64 D))
    (y0 : w1.cell? ⟨w.heap.size + 1 + 1, 0, none⟩ = some (.int .i64 0)) (y1 : w1.cell? ⟨w.heap.size + 1 + 1, 1, none⟩ = some (.slice none 0 0)) (yf : ∀ o, w1.frozen? ⟨w.heap.size + 1 + 1, o, none⟩ = false) (bb : Below w.heap.size w w1) (lz : w.heap.size + 2 < w1.heap.size)
    (hb : Below (w1.heap.size + 1) (w1.alloc (.cells #[.int .i64 0, .slice none 0 0] 25)).drew w2) (hg : w1.heap.size + 1 ≤ g) (ho : OwnI w2 (w1.heap.size + 1) (some ⟨g, 0, none⟩) n c ys) :
    DoAt w ((w2.setCell ⟨w1.heap.size, 0, none⟩ (.int .i64 Wb)).setCell ⟨w1.heap.size, 1, none⟩ (.slice (some ⟨g, 0, none⟩) n c)) w1.heap.size g Wb n c A B C D ys := by
  have z0 : w2.cell? ⟨w1.heap.size, 0, none⟩ = some (.int .i64 0) := kept hb (by simp) (by simp)
  have z1 : w2.cell? ⟨w1.heap.size, 1, none⟩ = some (.slice none 0 0) := kept hb (by simp) (by simp)
  have hB : Below w1.heap.size w1 ((w2.setCell ⟨w1.heap.size, 0, none⟩ (.int .i64 Wb)).setCell ⟨w1.heap.size, 1, none⟩ (.slice (some ⟨g, 0, none⟩) n c)) :=
    (((((Below.refl _ _).alloc (Nat.le_refl _) _).drew).trans (hb.mono (by omega))).setCell (by simp) _).setCell (by simp) _
  have z1' : (w2.setCell ⟨w1.heap.size, 0, none⟩ (.int .i64 Wb)).cell? ⟨w1.heap.size, 1, none⟩ = some (.slice none 0 0) := by rw [World.cell?_setCell_other _ _ _ _ (by simp)]; exact z1
  exact ⟨kept hB (block_lt s0) s0, kept hB (block_lt s1) s1, kept hB (block_lt s2) s2, kept hB (block_lt s3) s3, kept hB (block_lt y0) y0, kept hB (block_lt y1) y1, fun o => (hB.frozen (p := ⟨w.heap.size + 1 + 1, o, none⟩) (show w.heap.size + 1 + 1 < w1.heap.size by omega)).trans (yf o),
    by rw [World.cell?_setCell_other _ _ _ _ (by simp)]; exact World.cell?_setCell_same _ _ _ z0, World.cell?_setCell_same _ _ _ z1',
    ((ho.store (by simp) _).store (by simp) _).mono (by omega), bb.trans (hB.mono bb.size), by omega, by omega, by omega⟩

theorem keep5 {u v : World} {p0 p1 p2 p3 p4 : Addr} {v0 v1 v2 v3 v4 : Value} (hb : Below u.heap.size u v) (h : u.cell? p0 = some v0 ∧ u.cell? p1 = some v1 ∧ u.cell? p2 = some v2 ∧ u.cell? p3 = some v3 ∧ u.cell? p4 = some v4) : v.cell? p0 = some v0 ∧ v.cell? p1 = some v1 ∧ v.cell? p2 = some v2 ∧ v.cell? p3 = some v3 ∧ v.cell? p4 = some v4 :=
  ⟨kept hb (block_lt h.1) h.1, kept hb (block_lt h.2.1) h.2.1, kept hb (block_lt h.2.2.1) h.2.2.1, kept hb (block_lt h.2.2.2.1) h.2.2.2.1, kept hb (block_lt h.2.2.2.2) h.2.2.2.2⟩
theorem set5 {u : World} {g j b0 b1 b2 b3 b4 o0 o1 o2 o3 o4 : Nat} {x v0 v1 v2 v3 v4 : Value} (h0 : b0 ≠ g) (h1 : b1 ≠ g) (h2 : b2 ≠ g) (h3 : b3 ≠ g) (h4 : b4 ≠ g) (h : u.cell? ⟨b0, o0, none⟩ = some v0 ∧ u.cell? ⟨b1, o1, none⟩ = some v1 ∧ u.cell? ⟨b2, o2, none⟩ = some v2 ∧ u.cell? ⟨b3, o3, none⟩ = some v3 ∧ u.cell? ⟨b4, o4, none⟩ = some v4) :
    (u.setCell ⟨g, j, none⟩ x).cell? ⟨b0, o0, none⟩ = some v0 ∧ (u.setCell ⟨g, j, none⟩ x).cell? ⟨b1, o1, none⟩ = some v1 ∧ (u.setCell ⟨g, j, none⟩ x).cell? ⟨b2, o2, none⟩ = some v2 ∧ (u.setCell ⟨g, j, none⟩ x).cell? ⟨b3, o3, none⟩ = some v3 ∧ (u.setCell ⟨g, j, none⟩ x).cell? ⟨b4, o4, none⟩ = some v4 := by
  have o : ∀ {b o : Nat} {v : Value}, b ≠ g → u.cell? ⟨b, o, none⟩ = some v → (u.setCell ⟨g, j, none⟩ x).cell? ⟨b, o, none⟩ = some v := fun hb hc =>
    (World.cell?_of_block (Below.heap_setCell _ _ _ _ hb)).trans hc
  exact ⟨o h0 h.1, o h1 h.2.1, o h2 h.2.2.1, o h3 h.2.2.2.1, o h4 h.2.2.2.2⟩

-- BEHIND: gen20

set_option maxHeartbeats 4000000 in
theorem swdo_impl (W : Int) (a : Option Addr) (n cap : Nat) (xs : List Int) (A B C D : Int) (w : World) (h : Row w a n xs) (hm : n ≤ 9223372036854775807) :
    Calls Try.prog 34 #[.agg #[.int .i64 W, .slice a n cap], .agg #[.int .i64 A, .int .i64 B, .int .i64 C, .int .i64 D]] w (Gives w (doOut W xs A B C D)) := by
  obtain ⟨W0, hW0⟩ : ∃ W0, W0 = ((w.alloc (.cells #[.int .i64 W, .slice a n cap] 25)).alloc (.cells #[.int .i64 A, .int .i64 B, .int .i64 C, .int .i64 D] 37)).alloc (.cells #[.int .i64 0, .slice none 0 0] 25) := ⟨_, rfl⟩
  have bb : Hid (Below w.heap.size w W0) := by subst hW0; exact (((Below.refl _ _).alloc (Nat.le_refl _) _).alloc (by simp) _).alloc (by simp; omega) _
  have x0 : W0.cell? ⟨w.heap.size, 0, none⟩ = some (.int .i64 W) := by subst hW0; go_simp
  have x1 : W0.cell? ⟨w.heap.size, 1, none⟩ = some (.slice a n cap) := by subst hW0; go_simp
  have s0 : W0.cell? ⟨w.heap.size + 1, 0, none⟩ = some (.int .i64 A) := by subst hW0; go_simp
  have s1 : W0.cell? ⟨w.heap.size + 1, 1, none⟩ = some (.int .i64 B) := by subst hW0; go_simp
  have s2 : W0.cell? ⟨w.heap.size + 1, 2, none⟩ = some (.int .i64 C) := by subst hW0; go_simp
  have s3 : W0.cell? ⟨w.heap.size + 1, 3, none⟩ = some (.int .i64 D) := by subst hW0; go_simp
  have y0 : W0.cell? ⟨w.heap.size + 1 + 1, 0, none⟩ = some (.int .i64 0) := by subst hW0; go_simp
  have y1 : W0.cell? ⟨w.heap.size + 1 + 1, 1, none⟩ = some (.slice none 0 0) := by subst hW0; go_simp
  have yf : ∀ o, W0.frozen? ⟨w.heap.size + 1 + 1, o, none⟩ = false := fun o => by subst hW0; go_simp
  have r := Lib.hid (h.bel bb.out)
  clear h
  have l0 := block_lt y0
  simp only at l0
  have hl := Lib.hid r.out.1
  by_cases ho : okB W xs A B C D = true
  case neg =>
    have ho : okB W xs A B C D = false := by simpa using ho
    rw [doOut_no ho]
    go_enter Try.func34, Try.ntmps34
    go_wp2_with fail
    rw [← hW0]
    clear hW0
    refine (swok_impl _ _ _ _ xs _ _ _ _ _ r.out hm).mono ?_
    rintro e w1 ⟨rfl, hb⟩
    rw [ho]
    replace yf : ∀ o, w1.frozen? ⟨w.heap.size + 1 + 1, o, none⟩ = false := fun o => (hb.frozen (p := ⟨w.heap.size + 1 + 1, o, none⟩) l0).trans (yf o)
    have szw1 := hb.size
    replace x0 := kept hb (block_lt x0) x0
    replace x1 := kept hb (block_lt x1) x1
    replace s0 := kept hb (block_lt s0) s0
    replace s1 := kept hb (block_lt s1) s1
    replace s2 := kept hb (block_lt s2) s2
    replace s3 := kept hb (block_lt s3) s3
    replace y0 := kept hb (block_lt y0) y0
    replace y1 := kept hb (block_lt y1) y1
    replace r := Lib.hid (r.out.bel hb)
    replace bb := Lib.hid (bb.out.trans (hb.mono bb.out.size))
    clear hb
    go_wp2_with fail
    refine bodyPost_ret (v := .tuple #[.agg #[.int .i64 0, .slice none 0 0], .bool false]) (by simp [results, Try.results34, go_sem, y0, y1]) rfl ?_
    exact ⟨⟨none, 0, rfl, own_nil _ _⟩, (bb.out.setCell (by simp; omega) _).setCell (by simp; omega) _⟩
  have hvv : validB W xs = true := by simp only [okB, Bool.and_eq_true] at ho; exact ho.1
  have hI0 := validB_W hvv
  obtain ⟨W, rfl⟩ := Int.eq_ofNat_of_zero_le (by omega : 0 ≤ W)
  have hI : Im W n xs := Im.of hvv hl.out
  have ho' := ho
  obtain ⟨A, B, C, D, rfl, rfl, rfl, rfl, h1, h2, h3, h4, hs⟩ := okB_im hI ho'
  rw [doOut_yes hI ho]
  have hw6 := hI.w6
  have hn6 := hI.l6
  have hD6 : D < 6 := by omega
  have hset := Lib.hid (fll_set hI h1 h2 h3 h4)
  obtain ⟨xa, ea, hxa⟩ := hI.nat (show A < n by omega)
  obtain ⟨xb, eb, hxb⟩ := hI.nat (show B < n by omega)
  have hab : (xs.set A (bits BinOp.xor IntKind.i64 (xs.getD A 0) (mskI C D))).getD B 0 = xs.getD B 0 := by
    rw [List.getD_eq_getElem?_getD, List.getElem?_set_ne (by omega), ← List.getD_eq_getElem?_getD]
  rw [hab, ea, eb] at hset
  replace ea := Lib.hid ea
  replace eb := Lib.hid eb
  replace hab := Lib.hid hab
  replace hI := Lib.hid hI
  clear ho' hs hvv hI0
  obtain ⟨b, off, rfl, hrc⟩ := r.out.2.resolve_left (by omega)
  go_enter Try.func34, Try.ntmps34
  go_wp2_with fail
  rw [← hW0]
  clear hW0
  refine (swok_impl _ _ _ _ xs _ _ _ _ _ r.out hm).mono ?_
  rintro e w1 ⟨rfl, hb⟩
  rw [ho]
  clear ho hrc
  replace yf : ∀ o, w1.frozen? ⟨w.heap.size + 1 + 1, o, none⟩ = false := fun o => (hb.frozen (p := ⟨w.heap.size + 1 + 1, o, none⟩) l0).trans (yf o)
  have szw1 := hb.size
  replace x0 := kept hb (block_lt x0) x0
  replace x1 := kept hb (block_lt x1) x1
  replace s0 := kept hb (block_lt s0) s0
  replace s1 := kept hb (block_lt s1) s1
  replace s2 := kept hb (block_lt s2) s2
  replace s3 := kept hb (block_lt s3) s3
  replace y0 := kept hb (block_lt y0) y0
  replace y1 := kept hb (block_lt y1) y1
  replace r := Lib.hid (r.out.bel hb)
  replace bb := Lib.hid (bb.out.trans (hb.mono bb.out.size))
  clear hb
  obtain ⟨b', off', e, hrc⟩ := r.out.2.resolve_left (show n ≠ 0 by omega)
  simp only [Option.some.injEq, Addr.mk.injEq, and_true] at e
  obtain ⟨rfl, rfl⟩ := e
  go_wp2_with fail
  refine (icopy_any W _ n cap xs _ r.out (by omega) (by omega)).mono ?_
  rintro e w2 ⟨⟨ac, cc, rfl, ho⟩, hb2⟩
  obtain ⟨g, rfl, hg⟩ : ∃ g, ac = some ⟨g, 0, none⟩ ∧ w1.heap.size ≤ g := by
    rcases ho.cases with ⟨_, h0, _⟩ | ⟨g, rfl, hg, _⟩
    · omega
    · exact ⟨g, rfl, hg⟩
  have hD := Lib.hid (DoAt.of1 (Wb := W) s0 s1 s2 s3 y0 y1 yf bb.out (by omega) hb2 hg ho)
  clear x0 x1 s0 s1 s2 s3 y0 y1 yf r bb hrc ho hb2 hg
  go_upto_region 4 with fail
  obtain ⟨wc, hwc⟩ : ∃ wc, w2.alloc (.cells #[.int .i64 W, .slice (some ⟨g, 0, none⟩) n cc] 25) = wc := ⟨_, rfl⟩
  rw [hwc] at hD ⊢
  clear hwc
  generalize w2.heap.size = k at hD ⊢
  obtain ⟨xA, hxA⟩ : ∃ z, bits BinOp.xor IntKind.i64 ((xa : Nat) : Int) (mskI C D) = z := ⟨_, rfl⟩
  obtain ⟨xB, hxB⟩ : ∃ z, bits BinOp.xor IntKind.i64 ((xb : Nat) : Int) (mskI C D) = z := ⟨_, rfl⟩
  rw [hxA, hxB] at hset
  have c0 : wc.cell? ⟨g, A, none⟩ = some (.int .i64 xa) := by rw [← ea.out]; exact own_cell hD.out.own (by omega)
  have cf := hD.out.own.frozen A
  have b1 := hD.out.b1
  have s0 := hD.out.s0
  have s1 := hD.out.s1
  have s2 := hD.out.s2
  have s3 := hD.out.s3
  have lg := block_lt c0
  have lk := block_lt b1
  have ls := block_lt s0
  simp only at lg lk ls
  have a0 : (0 : Int) ≤ (A : Int) := Int.natCast_nonneg _
  have an : (A : Int) < (n : Int) := by omega
  go_upto_region 5 with fail
  go_cut [] (fun wx => Hid (DoAt w wx k g W n cc A B C D (xs.set A xA)))
  case first =>
    go_wp2_with fail
    go_region_law (first | ((go_simp; go_at_call 76; (with_reducible refine (columns_any _ _ C D _ h3 hD6).mono ?_); rintro e w2 ⟨rfl, hb2⟩; have hb2' : Below wc.heap.size wc w2 := (((Below.refl _ _).drew).trans (hb2.mono (Nat.le_refl _))); have c0 := kept hb2' lg c0; have cf := (hb2'.frozen (p := ⟨g, A, none⟩) lg).trans cf; have b1 := kept hb2' lk b1; have s0 := kept hb2' ls s0; have s1 := kept hb2' ls s1; have s2 := kept hb2' ls s2; have s3 := kept hb2' ls s3)))
    all_goals go_wp2_with fail
    all_goals go_meet
    all_goals exact (hD.out.move hb2').set A xA
  case rest =>
    clear c0 cf b1 s0 s1 s2 s3 lg lk ls hD
    have hD := hcut
    have eb2 : Hid ((xs.set A xA).getD B 0 = (xb : Int)) := by
      have e := eb.out
      show (xs.set A xA).getD B 0 = (xb : Int)
      rw [List.getD_eq_getElem?_getD, List.getElem?_set_ne (by omega), ← List.getD_eq_getElem?_getD]; exact e
    have c0 : wc.cell? ⟨g, B, none⟩ = some (.int .i64 xb) := by rw [← eb2.out]; exact own_cell hD.out.own (by omega)
    have cf := hD.out.own.frozen B
    have b1 := hD.out.b1
    have s0 := hD.out.s0
    have s1 := hD.out.s1
    have s2 := hD.out.s2
    have s3 := hD.out.s3
    have lg := block_lt c0
    have lk := block_lt b1
    have ls := block_lt s0
    simp only at lg lk ls
    have a0 : (0 : Int) ≤ (B : Int) := Int.natCast_nonneg _
    have an : (B : Int) < (n : Int) := by omega
    go_upto_region 6 with fail
    go_cut [] (fun wx => Hid (DoAt w wx k g W n cc A B C D ((xs.set A xA).set B xB)))
    case first =>
      go_wp2_with fail
      go_region_law (first | ((go_simp; go_at_call 76; (with_reducible refine (columns_any _ _ C D _ h3 hD6).mono ?_); rintro e w2 ⟨rfl, hb2⟩; have hb2' : Below wc.heap.size wc w2 := (((Below.refl _ _).drew).trans (hb2.mono (Nat.le_refl _))); have c0 := kept hb2' lg c0; have cf := (hb2'.frozen (p := ⟨g, B, none⟩) lg).trans cf; have b1 := kept hb2' lk b1; have s0 := kept hb2' ls s0; have s1 := kept hb2' ls s1; have s2 := kept hb2' ls s2; have s3 := kept hb2' ls s3)))
      all_goals go_wp2_with fail
      all_goals go_meet
      all_goals exact (hD.out.move hb2').set B xB
    case rest =>
      clear c0 cf b1 s0 s1 s2 s3 lg lk ls hD
      have hD := hcut
      clear hcut
      rw [hset.out] at hD
      have b0 := hD.out.b0
      have b1 := hD.out.b1
      have y0 := hD.out.y0
      have y1 := hD.out.y1
      have yf := hD.out.yf
      go_wp2_with fail
      refine bodyPost_ret (v := .tuple #[.agg #[.int .i64 W, .slice (some ⟨g, 0, none⟩) n cc], .bool true]) (by simp [results, Try.results34, go_sem, y0, y1]) rfl ?_
      refine ⟨⟨some ⟨g, 0, none⟩, cc, by rw [fll_len], ?_⟩, (hD.out.bel.setCell (by simp; omega) _).setCell (by simp; omega) _⟩
      show OwnI _ _ _ (flL xs W n A B C D).length _ (flL xs W n A B C D)
      rw [fll_len]
      exact ((hD.out.own.store (show w.heap.size + 1 + 1 < w.heap.size + 3 by omega) _).store (show w.heap.size + 1 + 1 < w.heap.size + 3 by omega) _).mono (by omega)
end Go.Proofs.Yteejopkimlkhoaa

