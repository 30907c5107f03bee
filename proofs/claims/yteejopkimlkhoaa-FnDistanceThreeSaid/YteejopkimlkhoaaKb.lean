/-
  The contract of the model's function that does a switch, with what it leaves.
-/
import Derived.Test.YteejopkimlkhoaaKa
namespace Go.Proofs.Yteejopkimlkhoaa
set_option maxRecDepth 100000
open Go.RowKit

theorem do_fl {W n : Nat} {xs : List Int} (h : Im W n xs) {A B C D : Nat} (h1 : A < B) (h2 : B < n) (h3 : C < D) (h4 : D < W) (hs : swC (cellOf xs) A B C D = true) :
    putL (putL (putL (putL xs A C (bitI (xs.getD A 0) C == 0)) B D (bitI (xs.getD A 0) C == 0)) A D (!(bitI (xs.getD A 0) C == 0))) B C (!(bitI (xs.getD A 0) C == 0)) = flL xs W n A B C D := by
  obtain ⟨S, hS⟩ : ∃ S, (bitI (xs.getD A 0) C == 0) = S := ⟨_, rfl⟩
  rw [hS]
  have eS : S = !cellOf xs A C := by rw [← hS, cell_bit]; cases cellOf xs A C <;> rfl
  have i1 := h.put (i := A) (j := C) (by omega) (by omega) S
  have i2 := i1.put (i := B) (j := D) (by omega) (by omega) S
  have i3 := i2.put (i := A) (j := D) (by omega) (by omega) (!S)
  refine (i3.put (i := B) (j := C) (by omega) (by omega) (!S)).ext (fl_im h A B C D) fun i j hi hj => ?_
  rw [i3.put_bit (by omega) (by omega) hi hj, i2.put_bit (by omega) (by omega) hi hj, i1.put_bit (by omega) (by omega) hi hj, h.put_bit (by omega) (by omega) hi hj]
  rw [cell_bit, cell_bit, fl_cell h hi hj]
  have sw := sw_bits hs
  unfold swC at hs
  by_cases e : (i = A ∨ i = B) ∧ (j = C ∨ j = D)
  · rw [fl_corner e, eS]
    rcases e with ⟨rfl | rfl, rfl | rfl⟩
    · rw [if_neg (by omega), if_neg (by omega), if_neg (by omega), if_pos ⟨rfl, rfl⟩]; rfl
    · rw [if_neg (by omega), if_pos ⟨rfl, rfl⟩]; revert hs; cases cellOf xs i C <;> cases cellOf xs B j <;> cases cellOf xs i j <;> cases cellOf xs B C <;> simp [bI]
    · rw [if_pos ⟨rfl, rfl⟩]; revert hs; cases cellOf xs A j <;> cases cellOf xs i D <;> cases cellOf xs A D <;> cases cellOf xs i j <;> simp [bI]
    · rw [if_neg (by omega), if_neg (by omega), if_pos ⟨rfl, rfl⟩]; revert hs; cases cellOf xs A C <;> cases cellOf xs i j <;> cases cellOf xs A j <;> cases cellOf xs i C <;> simp [bI]
  · rw [fl_other e, if_neg (by omega), if_neg (by omega), if_neg (by omega), if_neg (by omega)]

/-- What l11Do leaves: an image of these rows. -/
def GivesD (w : World) (W n : Nat) (ys : List Int) (e : Ending) (w' : World) : Prop :=
  (∃ (a : Option Addr) (c : Nat), e = .returned (.agg #[.int .i64 W, .slice a n c]) ∧ OwnI w' w.heap.size a n c ys) ∧ Below w.heap.size w w'

set_option maxHeartbeats 1000000 in
set_option maxRecDepth 100000 in
theorem dox_any (W : Nat) (a : Option Addr) (n cap : Nat) (xs : List Int) (A B C D : Nat) (w : World) (h : Row w a n xs) (hv : Im W n xs) (h1 : A < B) (h2 : B < n) (h3 : C < D) (h4 : D < W) (hs : swC (cellOf xs) A B C D = true) :
    Calls Try.prog 74 #[.agg #[.int .i64 W, .slice a n cap], .agg #[.int .i64 A, .int .i64 B, .int .i64 C, .int .i64 D]] w (GivesD w W n (flL xs W n A B C D)) := by
  have hfl := Lib.hid (do_fl hv h1 h2 h3 h4 hs)
  clear hs
  have hw6 := hv.w6
  have hn6 := hv.l6
  obtain ⟨W0, hW0⟩ : ∃ W0, W0 = ((w.alloc (.cells #[.int .i64 W, .slice a n cap] 25)).alloc (.cells #[.int .i64 A, .int .i64 B, .int .i64 C, .int .i64 D] 37)).alloc (.cells #[.int .i64 0, .slice none 0 0] 25) := ⟨_, rfl⟩
  have bb : Below w.heap.size w W0 := by subst hW0; exact (((Below.refl _ _).alloc (Nat.le_refl _) _).alloc (by simp) _).alloc (by simp; omega) _
  have x0 : W0.cell? ⟨w.heap.size, 0, none⟩ = some (.int .i64 W) := by subst hW0; go_simp
  have x1 : W0.cell? ⟨w.heap.size, 1, none⟩ = some (.slice a n cap) := by subst hW0; go_simp
  have s0 : W0.cell? ⟨w.heap.size + 1, 0, none⟩ = some (.int .i64 A) := by subst hW0; go_simp
  have s1 : W0.cell? ⟨w.heap.size + 1, 1, none⟩ = some (.int .i64 B) := by subst hW0; go_simp
  have s2 : W0.cell? ⟨w.heap.size + 1, 2, none⟩ = some (.int .i64 C) := by subst hW0; go_simp
  have s3 : W0.cell? ⟨w.heap.size + 1, 3, none⟩ = some (.int .i64 D) := by subst hW0; go_simp
  have z0 : W0.cell? ⟨w.heap.size + 1 + 1, 0, none⟩ = some (.int .i64 0) := by subst hW0; go_simp
  have z1 : W0.cell? ⟨w.heap.size + 1 + 1, 1, none⟩ = some (.slice none 0 0) := by subst hW0; go_simp
  have zf : ∀ o, W0.frozen? ⟨w.heap.size + 1 + 1, o, none⟩ = false := fun o => by subst hW0; go_simp
  have l0 : w.heap.size + 1 + 1 < W0.heap.size := block_lt z0
  have r := Lib.hid (h.bel bb)
  have zb : Hid (Box W0 (w.heap.size + 1 + 1) (.int .i64 0) (.slice none 0 0)) := ⟨z0, z1, zf⟩
  have bb := Lib.hid bb
  clear z0 z1 zf
  obtain ⟨b, off, rfl, hcc⟩ := r.out.2.resolve_left (by omega)
  have hl := h.1
  clear h
  go_enter Try.func74, Try.ntmps74
  go_wp2_with fail
  rw [← hW0]
  clear hW0
  refine (copy_spec W b off n cap xs _ hl hcc (by omega) (by omega)).mono ?_
  rintro e w1 ⟨⟨ac, cc, rfl, ho⟩, hb⟩
  obtain ⟨g, rfl⟩ : ∃ g, ac = some ⟨g, 0, none⟩ := by
    rcases ho.cases with ⟨_, h, _⟩ | ⟨g, h, _⟩
    · omega
    · exact ⟨g, h⟩
  have hg := own_ge ho
  clear hcc
  have szw1 := hb.size
  replace x0 := kept hb (block_lt x0) x0
  replace x1 := kept hb (block_lt x1) x1
  replace s0 := kept hb (block_lt s0) s0
  replace s1 := kept hb (block_lt s1) s1
  replace s2 := kept hb (block_lt s2) s2
  replace s3 := kept hb (block_lt s3) s3
  replace r := Lib.hid (r.out.bel hb)
  replace bb := Lib.hid (bb.out.trans (hb.mono bb.out.size))
  replace zb := Lib.hid (zb.out.bel hb)
  clear hb
  have hbx : Below w1.heap.size w1 (w1.alloc (.cells #[.int .i64 W, .slice (some ⟨g, 0, none⟩) n cc] 25)) := (Below.refl _ _).alloc (Nat.le_refl _) _
  replace x0 := kept hbx (block_lt x0) x0
  replace x1 := kept hbx (block_lt x1) x1
  replace s0 := kept hbx (block_lt s0) s0
  replace s1 := kept hbx (block_lt s1) s1
  replace s2 := kept hbx (block_lt s2) s2
  replace s3 := kept hbx (block_lt s3) s3
  replace r := Lib.hid (r.out.bel hbx)
  replace bb := Lib.hid (bb.out.trans (hbx.mono bb.out.size))
  replace zb := Lib.hid (zb.out.bel hbx)
  have o0 : (w1.alloc (.cells #[.int .i64 W, .slice (some ⟨g, 0, none⟩) n cc] 25)).cell? ⟨w1.heap.size, 0, none⟩ = some (.int .i64 W) := by simp
  have o1 : (w1.alloc (.cells #[.int .i64 W, .slice (some ⟨g, 0, none⟩) n cc] 25)).cell? ⟨w1.heap.size, 1, none⟩ = some (.slice (some ⟨g, 0, none⟩) n cc) := by simp
  have o := Lib.hid (ho.bel hbx)
  have hI := Lib.hid hv
  clear hbx ho hv
  go_wp2_with fail
  refine (get_any W _ n cap xs A C _ r.out hI.out (by omega) (by omega)).mono ?_
  rintro e w2 ⟨rfl, hb⟩
  generalize bitI (xs.getD A 0) C = u at hfl ⊢
  replace x0 := kept hb (block_lt x0) x0
  replace x1 := kept hb (block_lt x1) x1
  replace s0 := kept hb (block_lt s0) s0
  replace s1 := kept hb (block_lt s1) s1
  replace s2 := kept hb (block_lt s2) s2
  replace s3 := kept hb (block_lt s3) s3
  replace o0 := kept hb (block_lt o0) o0
  replace o1 := kept hb (block_lt o1) o1
  replace r := Lib.hid (r.out.bel hb)
  replace o := Lib.hid (o.out.bel hb)
  replace bb := Lib.hid (bb.out.trans (hb.mono bb.out.size))
  replace zb := Lib.hid (zb.out.bel hb)
  have s2' : w1.heap.size < w2.heap.size := block_lt o0
  clear hb
  obtain ⟨S, hS⟩ : ∃ S, (u == 0) = S := ⟨_, rfl⟩
  rw [hS] at hfl
  obtain ⟨ys, hys⟩ : ∃ ys, ys = xs := ⟨_, rfl⟩
  have hfl2 : Hid (putL (putL (putL (putL ys A C S) B D S) A D (!S)) B C (!S) = flL xs W n A B C D) := by rw [hys]; exact hfl.out
  rw [← hys] at o hI
  clear hys hfl
  replace hfl := hfl2
  clear hfl2
  go_wp2_with fail
  have hr := hI.out.row A (by omega)
  have hp := pw_63 hw6
  refine (put_spec W _ g n cc ys A C (S) _ o.out (by omega) (by omega) hr.1 (by omega)).mono ?_
  rintro e w3 ⟨rfl, hg0, ho⟩
  have szw3 := hg0.size
  replace x0 := hg0.cell x0 (by simp; omega)
  replace x1 := hg0.cell x1 (by simp; omega)
  replace s0 := hg0.cell s0 (by simp; omega)
  replace s1 := hg0.cell s1 (by simp; omega)
  replace s2 := hg0.cell s2 (by simp; omega)
  replace s3 := hg0.cell s3 (by simp; omega)
  replace o0 := hg0.cell o0 (by simp; omega)
  replace o1 := hg0.cell o1 (by simp; omega)
  replace zb := Lib.hid (zb.out.grown hg0 (by omega))
  replace bb := Lib.hid (bb.out.trans ((grown_below hg0).mono (by omega)))
  replace o := Lib.hid (show OwnI _ _ _ _ _ (putL ys A C (S)) from ho)
  replace hI := Lib.hid (hI.out.put (i := A) (j := C) (by omega) (by omega) (S))
  clear ho hg0 hr hp
  obtain ⟨ys0, hy0⟩ : ∃ z, putL ys A C (S) = z := ⟨_, rfl⟩
  rw [hy0] at o hI
  have hfl2 : Hid (putL (putL (putL ys0 B D S) A D (!S)) B C (!S) = flL xs W n A B C D) := by rw [← hy0]; exact hfl.out
  clear hfl hy0
  obtain ⟨ys, hys⟩ : ∃ ys, ys = ys0 := ⟨_, rfl⟩
  rw [← hys] at o hI hfl2
  clear hys
  replace hfl := hfl2
  clear hfl2
  go_wp2_with fail
  have hr := hI.out.row B (by omega)
  have hp := pw_63 hw6
  refine (put_spec W _ g n cc ys B D (S) _ o.out (by omega) (by omega) hr.1 (by omega)).mono ?_
  rintro e w4 ⟨rfl, hg1, ho⟩
  have szw4 := hg1.size
  replace x0 := hg1.cell x0 (by simp; omega)
  replace x1 := hg1.cell x1 (by simp; omega)
  replace s0 := hg1.cell s0 (by simp; omega)
  replace s1 := hg1.cell s1 (by simp; omega)
  replace s2 := hg1.cell s2 (by simp; omega)
  replace s3 := hg1.cell s3 (by simp; omega)
  replace o0 := hg1.cell o0 (by simp; omega)
  replace o1 := hg1.cell o1 (by simp; omega)
  replace zb := Lib.hid (zb.out.grown hg1 (by omega))
  replace bb := Lib.hid (bb.out.trans ((grown_below hg1).mono (by omega)))
  replace o := Lib.hid (show OwnI _ _ _ _ _ (putL ys B D (S)) from ho)
  replace hI := Lib.hid (hI.out.put (i := B) (j := D) (by omega) (by omega) (S))
  clear ho hg1 hr hp
  obtain ⟨ys1, hy1⟩ : ∃ z, putL ys B D (S) = z := ⟨_, rfl⟩
  rw [hy1] at o hI
  have hfl2 : Hid (putL (putL ys1 A D (!S)) B C (!S) = flL xs W n A B C D) := by rw [← hy1]; exact hfl.out
  clear hfl hy1
  obtain ⟨ys, hys⟩ : ∃ ys, ys = ys1 := ⟨_, rfl⟩
  rw [← hys] at o hI hfl2
  clear hys
  replace hfl := hfl2
  clear hfl2
  go_wp2_with fail
  have hr := hI.out.row A (by omega)
  have hp := pw_63 hw6
  refine (put_spec W _ g n cc ys A D (!S) _ o.out (by omega) (by omega) hr.1 (by omega)).mono ?_
  rintro e w5 ⟨rfl, hg2, ho⟩
  have szw5 := hg2.size
  replace x0 := hg2.cell x0 (by simp; omega)
  replace x1 := hg2.cell x1 (by simp; omega)
  replace s0 := hg2.cell s0 (by simp; omega)
  replace s1 := hg2.cell s1 (by simp; omega)
  replace s2 := hg2.cell s2 (by simp; omega)
  replace s3 := hg2.cell s3 (by simp; omega)
  replace o0 := hg2.cell o0 (by simp; omega)
  replace o1 := hg2.cell o1 (by simp; omega)
  replace zb := Lib.hid (zb.out.grown hg2 (by omega))
  replace bb := Lib.hid (bb.out.trans ((grown_below hg2).mono (by omega)))
  replace o := Lib.hid (show OwnI _ _ _ _ _ (putL ys A D (!S)) from ho)
  replace hI := Lib.hid (hI.out.put (i := A) (j := D) (by omega) (by omega) (!S))
  clear ho hg2 hr hp
  obtain ⟨ys2, hy2⟩ : ∃ z, putL ys A D (!S) = z := ⟨_, rfl⟩
  rw [hy2] at o hI
  have hfl2 : Hid (putL ys2 B C (!S) = flL xs W n A B C D) := by rw [← hy2]; exact hfl.out
  clear hfl hy2
  obtain ⟨ys, hys⟩ : ∃ ys, ys = ys2 := ⟨_, rfl⟩
  rw [← hys] at o hI hfl2
  clear hys
  replace hfl := hfl2
  clear hfl2
  go_wp2_with fail
  have hr := hI.out.row B (by omega)
  have hp := pw_63 hw6
  refine (put_spec W _ g n cc ys B C (!S) _ o.out (by omega) (by omega) hr.1 (by omega)).mono ?_
  rintro e w6 ⟨rfl, hg3, ho⟩
  have szw6 := hg3.size
  replace x0 := hg3.cell x0 (by simp; omega)
  replace x1 := hg3.cell x1 (by simp; omega)
  replace s0 := hg3.cell s0 (by simp; omega)
  replace s1 := hg3.cell s1 (by simp; omega)
  replace s2 := hg3.cell s2 (by simp; omega)
  replace s3 := hg3.cell s3 (by simp; omega)
  replace o0 := hg3.cell o0 (by simp; omega)
  replace o1 := hg3.cell o1 (by simp; omega)
  replace zb := Lib.hid (zb.out.grown hg3 (by omega))
  replace bb := Lib.hid (bb.out.trans ((grown_below hg3).mono (by omega)))
  replace o := Lib.hid (show OwnI _ _ _ _ _ (putL ys B C (!S)) from ho)
  replace hI := Lib.hid (hI.out.put (i := B) (j := C) (by omega) (by omega) (!S))
  clear ho hg3 hr hp
  obtain ⟨ys3, hy3⟩ : ∃ z, putL ys B C (!S) = z := ⟨_, rfl⟩
  rw [hy3] at o hI
  have hfl2 : Hid (ys3 = flL xs W n A B C D) := by rw [← hy3]; exact hfl.out
  clear hfl hy3
  obtain ⟨ys, hys⟩ : ∃ ys, ys = ys3 := ⟨_, rfl⟩
  rw [← hys] at o hI hfl2
  clear hys
  replace hfl := hfl2
  clear hfl2
  have z0 := zb.out.c0
  have z1 := zb.out.c1
  have zf := zb.out.fz
  go_wp2_with fail
  refine bodyPost_ret (v := .agg #[.int .i64 W, .slice (some ⟨g, 0, none⟩) n cc]) (by simp [results, Try.results74, go_sem, z0, z1]) rfl ?_
  have o2 := o.out
  rw [show ys = flL xs W n A B C D from hfl.out] at o2
  exact ⟨⟨_, cc, rfl, ((o2.store (show w.heap.size + 1 + 1 < W0.heap.size by omega) _).store (show w.heap.size + 1 + 1 < W0.heap.size by omega) _).mono (by omega)⟩, (bb.out.setCell (by simp; omega) _).setCell (by simp; omega) _⟩
end Go.Proofs.Yteejopkimlkhoaa

