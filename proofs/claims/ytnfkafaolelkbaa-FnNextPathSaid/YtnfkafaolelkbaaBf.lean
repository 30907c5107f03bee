/-
  The contract of the program's ImageNth.
-/
import Derived.Test.YtnfkafaolelkbaaBe
import Derived.Test.YtnfkafaolelkbaaK
import Derived.Test.YtnfkafaolelkbaaA
import Derived.Deep.RegionHeld3
namespace Go.Proofs.Ytnfkafaolelkbaa
set_option maxRecDepth 100000
open Go.RowKit

/-- The middle of the walk: the boxes of the column sums, of the rank, of the result, of the image and of the choices; the rows and the choices themselves. -/
structure Nt (w wr : World) (aC : Option Addr) (W cC n k8 g8 k9 g Bg : Nat) (nv : Int) (xs : List Int) (C : List (List Int)) : Prop where
  c0 : wr.cell? ⟨w.heap.size, 0, none⟩ = some (.slice aC W cC)
  n0 : wr.cell? ⟨w.heap.size + 1, 0, none⟩ = some (.int .i64 nv)
  nf : wr.frozen? ⟨w.heap.size + 1, 0, none⟩ = false
  r0 : wr.cell? ⟨w.heap.size + 2, 0, none⟩ = some (.int .i64 0)
  r1 : wr.cell? ⟨w.heap.size + 2, 1, none⟩ = some (.slice none 0 0)
  rf : ∀ o, wr.frozen? ⟨w.heap.size + 2, o, none⟩ = false
  i0 : wr.cell? ⟨k8, 0, none⟩ = some (.int .i64 W)
  i1 : wr.cell? ⟨k8, 1, none⟩ = some (.slice (some ⟨g8, 0, none⟩) n n)
  l0 : wr.cell? ⟨k9, 0, none⟩ = some (.slice (some ⟨g, 0, none⟩) n n)
  own : OwnI wr w.heap.size (some ⟨g8, 0, none⟩) n n xs
  ch : ChR Bg wr g n C
  bel : Below w.heap.size w wr
  d1 : w.heap.size + 2 < k8 ∧ w.heap.size + 2 < g8 ∧ k8 ≠ g8 ∧ k8 < Bg ∧ g8 < Bg ∧ g < k9
variable {w wr w1 : World} {aC : Option Addr} {W cC n k8 g8 k9 g Bg : Nat} {nv : Int} {xs : List Int} {C : List (List Int)}
theorem Nt.move (h : Nt w wr aC W cC n k8 g8 k9 g Bg nv xs C) (hb : Below wr.heap.size wr w1) : Nt w w1 aC W cC n k8 g8 k9 g Bg nv xs C :=
  ⟨kept hb (block_lt h.c0) h.c0, kept hb (block_lt h.n0) h.n0, (hb.frozen (p := ⟨w.heap.size + 1, 0, none⟩) (block_lt h.n0)).trans h.nf, kept hb (block_lt h.r0) h.r0, kept hb (block_lt h.r1) h.r1,
   fun o => (hb.frozen (p := ⟨w.heap.size + 2, o, none⟩) (show w.heap.size + 2 < _ from block_lt h.r0)).trans (h.rf o), kept hb (block_lt h.i0) h.i0, kept hb (block_lt h.i1) h.i1, kept hb (block_lt h.l0) h.l0, h.own.bel hb, h.ch.bel hb, h.bel.trans (hb.mono h.bel.size), h.d1⟩
theorem other_cell {w : World} {b o q i : Nat} {v u : Value} (h : w.cell? ⟨b, o, none⟩ = some u) (hne : b ≠ q) : (w.setCell ⟨q, i, none⟩ v).cell? ⟨b, o, none⟩ = some u := by
  rw [World.cell?_setCell_other _ _ _ _ (by first | (simp; done) | (simp; omega))]; exact h
theorem Nt.setn (h : Nt w wr aC W cC n k8 g8 k9 g Bg nv xs C) (v : Int) : Nt w (wr.setCell ⟨w.heap.size + 1, 0, none⟩ (.int .i64 v)) aC W cC n k8 g8 k9 g Bg v xs C := by
  have hd := h.d1
  have hf := h.ch.far
  exact ⟨other_cell h.c0 (by omega), World.cell?_setCell_same _ _ _ h.n0, by rw [World.frozen?_setCell]; exact h.nf, other_cell h.r0 (by omega), other_cell h.r1 (by omega), fun o => by rw [World.frozen?_setCell]; exact h.rf o,
    other_cell h.i0 (by omega), other_cell h.i1 (by omega), other_cell h.l0 (by omega), World.ownsRow.kept h.own (grown_set (World.grownBy.refl _ _)) (.inr (fun e => by have := Option.some.inj e; simp at this; omega)), h.ch.other (by omega), h.bel.setCell (show w.heap.size ≤ w.heap.size + 1 by omega) _, hd⟩
theorem Nt.setx (h : Nt w wr aC W cC n k8 g8 k9 g Bg nv xs C) (i : Nat) (x : Int) : Nt w (wr.setCell ⟨g8, i, none⟩ (.int .i64 x)) aC W cC n k8 g8 k9 g Bg nv (xs.set i x) C := by
  have hd := h.d1
  have hf := h.ch.far
  exact ⟨other_cell h.c0 (by omega), other_cell h.n0 (by omega), by rw [World.frozen?_setCell]; exact h.nf, other_cell h.r0 (by omega), other_cell h.r1 (by omega), fun o => by rw [World.frozen?_setCell]; exact h.rf o,
    other_cell h.i0 (by omega), other_cell h.i1 (by omega), other_cell h.l0 (by omega), h.own.set i x, h.ch.other (by omega), h.bel.setCell (show w.heap.size ≤ g8 by omega) _, hd⟩
theorem Nt.setc (h : Nt w wr aC W cC n k8 g8 k9 g Bg nv xs C) {q : Nat} {v : Value} {D : List (List Int)} (hc : ChR Bg (wr.setCell ⟨g, q, none⟩ v) g n D) : Nt w (wr.setCell ⟨g, q, none⟩ v) aC W cC n k8 g8 k9 g Bg nv xs D := by
  have hd := h.d1
  have hf := h.ch.far
  exact ⟨other_cell h.c0 (by omega), other_cell h.n0 (by omega), by rw [World.frozen?_setCell]; exact h.nf, other_cell h.r0 (by omega), other_cell h.r1 (by omega), fun o => by rw [World.frozen?_setCell]; exact h.rf o,
    other_cell h.i0 (by omega), other_cell h.i1 (by omega), other_cell h.l0 (by omega), World.ownsRow.kept h.own (grown_set (World.grownBy.refl _ _)) (.inr (fun e => by have := Option.some.inj e; simp at this; omega)), hc, h.bel.setCell (show w.heap.size ≤ g by omega) _, hd⟩
theorem mkn1 (w1 : World) (Wb : Int) {n : Nat} (hn : n ≤ 1048576) :
    ∃ U0 g k2, U0 = ((w1.alloc (.cells (madeCells #[.int .i64 0] n) 3)).alloc (.cells #[.int .i64 Wb, .slice (some ⟨w1.heap.size, 0, none⟩) n n] 30)).drew ∧ g = w1.heap.size ∧ k2 = w1.heap.size + 1 ∧ Below w1.heap.size w1 U0 ∧ U0.cell? ⟨k2, 0, none⟩ = some (.int .i64 Wb) ∧ U0.cell? ⟨k2, 1, none⟩ = some (.slice (some ⟨g, 0, none⟩) n n) ∧ OwnI U0 w1.heap.size (some ⟨g, 0, none⟩) n n (List.replicate n 0) ∧ k2 ≠ g ∧ w1.heap.size ≤ g ∧ w1.heap.size ≤ k2 :=
  ⟨_, _, _, rfl, rfl, rfl, (((Below.refl _ _).alloc (Nat.le_refl _) _).alloc (by simp) _).drew, by go_simp, by go_simp, (made_own w1 _ n (Nat.le_refl _) hn).bel (((Below.refl _ _).alloc (Nat.le_refl _) _).drew), by omega, Nat.le_refl _, by omega⟩
theorem mkn2 (w1 : World) (Wb : Int) {n : Nat} (hn : n ≤ 1048576) :
    ∃ U0 g k2, U0 = ((w1.alloc (.cells #[.int .i64 Wb, .slice (some ⟨w1.heap.size + 1, 0, none⟩) n n] 30)).alloc (.cells (madeCells #[.int .i64 0] n) 3)).drew ∧ g = w1.heap.size + 1 ∧ k2 = w1.heap.size ∧ Below w1.heap.size w1 U0 ∧ U0.cell? ⟨k2, 0, none⟩ = some (.int .i64 Wb) ∧ U0.cell? ⟨k2, 1, none⟩ = some (.slice (some ⟨g, 0, none⟩) n n) ∧ OwnI U0 w1.heap.size (some ⟨g, 0, none⟩) n n (List.replicate n 0) ∧ k2 ≠ g ∧ w1.heap.size ≤ g ∧ w1.heap.size ≤ k2 := by
  have ho := made_own (w1.alloc (.cells #[.int .i64 Wb, .slice (some ⟨w1.heap.size + 1, 0, none⟩) n n] 30)) w1.heap.size n (by simp) hn
  exact ⟨_, _, _, rfl, rfl, rfl, (((Below.refl _ _).alloc (Nat.le_refl _) _).alloc (by simp) _).drew, by go_simp, by go_simp, by simpa using ho.bel ((Below.refl _ _).drew), by omega, by omega, Nat.le_refl _⟩
theorem fill_one {ys : List Int} {k n : Nat} {x : Int} (hy : ys.length = k) (hk : k < n) : (ys ++ List.replicate (n - k) 0).set k x = (ys ++ [x]) ++ List.replicate (n - (k + 1)) 0 := by
  rw [List.set_append_right _ _ (by omega), hy, Nat.sub_self, show n - k = (n - (k + 1)) + 1 by omega, List.replicate_succ, List.set_cons_zero, List.append_assoc]; rfl
theorem fill_get {ys : List Int} {k n : Nat} (hy : ys.length = k) (hk : k < n) : (ys ++ List.replicate (n - k) 0).getD k 0 = 0 := by
  rw [List.getD_eq_getElem?_getD, List.getElem?_append_right (by omega), hy, Nat.sub_self]; simp [show 0 < n - k by omega]
theorem Pre.bd {R cs cols ys : List Int} {N n' : Int} {i : Nat} (h : Pre W R cols N i ys cs n') (hW : W ≤ 6) (hR : R.length ≤ 6) : 0 ≤ n' ∧ n' ≤ 68719476736 := by
  have h1 := h.h1
  have h2 := way_num W (R.drop i) cs h.hl (fun j hj => (h.hb j hj).1)
  have h3 := nOf_bd (fitP (R.drop i) cs W (R.drop i).length) W (R.drop i).length
  have h4 := pw_le ((R.drop i).length * W) 36 (by
    have : (R.drop i).length * W ≤ 6 * 6 := Nat.mul_le_mul (by rw [List.length_drop]; omega) hW
    omega)
  have h5 : pw 36 = 68719476736 := by decide
  have h6 := h.h0
  omega
/-- What ImageNth answers. -/
def ntB (R C : List Int) (N : Int) : Bool := ctdB R C && decide (0 ≤ N ∧ N < cntS R C)
def nthO (R C : List Int) (N : Int) : Out := if ntB R C N = true then ⟨true, C.length, nthS R C N.toNat⟩ else .no
theorem nto_no {R C : List Int} {N : Int} (h : N < 0 ∨ scO R C ≤ N) : nthO R C N = .no := by
  refine if_neg ?_
  unfold ntB
  rw [Bool.and_eq_true, decide_eq_true_eq]
  rintro ⟨h1, h2⟩
  rw [scO, if_pos h1] at h
  omega
theorem nto_yes {R C : List Int} {N : Int} (h0 : 0 ≤ N) (h : N < scO R C) : ctdB R C = true ∧ N < cntS R C ∧ nthO R C N = ⟨true, C.length, nthS R C N.toNat⟩ := by
  by_cases hc : ctdB R C = true
  · rw [scO, if_pos hc] at h
    exact ⟨hc, h, if_pos (by unfold ntB; rw [hc, decide_eq_true ⟨h0, h⟩]; rfl)⟩
  · rw [scO, if_neg hc] at h; omega
theorem nth_len {R C : List Int} {k : Nat} (h : (k : Int) < cntS R C) : (nthS R C k).length = R.length := alls_len2 (nth_mem h)
theorem part_bd {C : List (List Int)} (hl : C.length ≤ 6) (h : ∀ L, L ∈ C → L.length ≤ 64) (k : List Int) : 0 ≤ ckr C k ∧ ckr C k ≤ 68719476736 := by
  have e1 := ckr_bd (C := C) k h
  have e2 := pw_le (6 * C.length) 36 (by omega)
  have h3 : pw 36 = 68719476736 := by decide
  have h4 := ckr_nn C k
  omega
set_option maxHeartbeats 1600000 in
/-- The function that is searched with. -/
theorem nthf_any (kc kn ki k9 g n : Nat) (C : List (List Int)) (b : Option Addr) (m cb : Nat) (cols : List Int) (i k : Nat) (nv v : Int) (w : World) (hl0 : w.cell? ⟨k9, 0, none⟩ = some (.slice (some ⟨g, 0, none⟩) n n)) (hc0 : w.cell? ⟨kc, 0, none⟩ = some (.slice b m cb))
    (hi0 : w.cell? ⟨ki, 0, none⟩ = some (.int .i64 i)) (hn0 : w.cell? ⟨kn, 0, none⟩ = some (.int .i64 nv)) (h : RowsC w g 0 n C) (hc : Row w b m cols) (hn : n ≤ 6) (h1 : 1 ≤ m) (h6 : m ≤ 6)
    (hcb : ∀ j, j < m → 0 ≤ cols.getD j 0 ∧ cols.getD j 0 ≤ 7) (hC : ∀ L, L ∈ C → L.length ≤ 64 ∧ ∀ x, x ∈ L → 0 ≤ x ∧ x ≤ 63) (hi : i < n) (L : List Int) (hL : C[i]? = some L) (hk : k < L.length) (hv : ckr (C.set i (L.take (k + 1))) (padL cols) = v) :
    Calls Try.prog 72 #[.int .i64 k, .pointer (some ⟨k9, 0, none⟩), .pointer (some ⟨kc, 0, none⟩), .pointer (some ⟨ki, 0, none⟩), .pointer (some ⟨kn, 0, none⟩)] w fun e w' => e = .returned (.bool (decide (nv < v))) ∧ Below w.heap.size w w' := by
  have hk64 := (hC L (List.mem_of_getElem? hL)).1
  have cc : ∀ p : Bw w, Calls Try.prog 62 #[.slice (some ⟨g, 0, none⟩) n n, .slice b m cb, .int .i64 i, .int .i64 ((k : Int) + 1)] p.v (fun e w' => e = .returned (.int .i64 v) ∧ ∃ q : Bw w, w' = q.v) := fun p => by
    have := before_any g 0 n n C b m cb cols i (k + 1) p.v (h.bel p.h) (hc.bel p.h) hn h1 h6 hcb hC hi L hL (by omega)
    rw [hv] at this
    exact bw_of this
  replace cc := Lib.hid cc
  have gl0 := fun p : Bw w => bw_cell hl0 p
  have gc0 := fun p : Bw w => bw_cell hc0 p
  have gi0 := fun p : Bw w => bw_cell hi0 p
  have gn0 := fun p : Bw w => bw_cell hn0 p
  have hiw : IntKind.i64.wrap ((k : Int) + 1) = (k : Int) + 1 := IntWalk.i64_in _ ⟨by omega, by omega⟩
  replace hv := Lib.hid hv
  clear h hc hcb hC hL hk
  go_enter Try.func72, Try.ntmps72
  go_wp2_with fail
  refine wp_region_bw (by kernel_rfl) (by kernel_rfl) ?_
  repeat (go_big_quiet_step (first | (with_reducible exact cc.out _)))
  refine wpQuiet_nil ?_
  intro _ hw'
  obtain ⟨pq, rfl⟩ := hw'
  have hb := Lib.hid pq.h
  clear gl0 gc0 gi0 gn0 cc
  generalize pq.v = w2 at hb ⊢
  clear pq
  go_wp2_with fail
  go_ret
  exact ⟨rfl, hb.out⟩
set_option maxHeartbeats 4000000 in
theorem nth_impl (a : Option Addr) (n cap : Nat) (b : Option Addr) (m cb : Nat) (R C : List Int) (N : Int) (w : World) (h : Row w a n R) (h' : Row w b m C) (hn : n ≤ 1048576) (hm : m ≤ 1048576) :
    Calls Try.prog 29 #[.slice a n cap, .slice b m cb, .int .i64 N] w (Gives w (nthO R C N)) := by
  have l1 := h.1
  have l2 := h'.1
  obtain ⟨W0, hW0⟩ : ∃ W0, W0 = (((w.alloc (.cells #[.slice b m cb] 23)).alloc (.cells #[.int .i64 N] 3)).alloc (.cells #[.int .i64 0, .slice none 0 0] 30)) := ⟨_, rfl⟩
  have bb : Hid (Below w.heap.size w W0) := by subst hW0; exact (((Below.refl _ _).alloc (Nat.le_refl _) _).alloc (by simp) _).alloc (by simp; omega) _
  have c0 : W0.cell? ⟨w.heap.size, 0, none⟩ = some (.slice b m cb) := by subst hW0; go_simp
  have n0 : W0.cell? ⟨w.heap.size + 1, 0, none⟩ = some (.int .i64 N) := by subst hW0; go_simp
  have nf : W0.frozen? ⟨w.heap.size + 1, 0, none⟩ = false := by subst hW0; go_simp
  have r0 : W0.cell? ⟨w.heap.size + 2, 0, none⟩ = some (.int .i64 0) := by subst hW0; go_simp
  have r1 : W0.cell? ⟨w.heap.size + 2, 1, none⟩ = some (.slice none 0 0) := by subst hW0; go_simp
  have rf : ∀ o, W0.frozen? ⟨w.heap.size + 2, o, none⟩ = false := fun o => by subst hW0; go_simp
  have rR := Lib.hid (h.bel bb.out)
  have rC := Lib.hid (h'.bel bb.out)
  obtain ⟨S, hS⟩ : ∃ S, scO R C = S := ⟨_, rfl⟩
  have csc : ∀ p : Bw W0, Calls Try.prog 21 #[.slice a n cap, .slice b m cb] p.v (fun e w' => e = .returned (.int .i64 S) ∧ ∃ q : Bw W0, w' = q.v) := fun p => by
    have := sc_impl a n cap b m cb R C p.v (rR.out.bel p.h) (rC.out.bel p.h) hn hm
    rw [hS] at this
    exact bw_of this
  replace csc := Lib.hid csc
  have gc0 := fun p : Bw W0 => bw_cell c0 p
  have gn0 := fun p : Bw W0 => bw_cell n0 p
  obtain ⟨O, hO⟩ : ∃ O, nthO R C N = O := ⟨_, rfl⟩
  rw [hO]
  replace hO := Lib.hid hO
  replace hS := Lib.hid hS
  have l1 := Lib.hid l1
  have l2 := Lib.hid l2
  have hC0 := Lib.hid h'
  clear h h'
  by_cases h0 : N < 0
  · obtain rfl : O = .no := hO.out.symm.trans (nto_no (.inl h0))
    go_enter Try.func29, Try.ntmps29
    go_upto_region 1 with fail
    rw [← hW0]
    clear hW0
    refine wp_region_bw (by kernel_rfl) (by kernel_rfl) ?_
    repeat (go_big_quiet_step (first | (with_reducible exact csc.out _)))
    refine wpQuiet_nil ?_
    intro _ hw'
    obtain ⟨pq, rfl⟩ := hw'
    have hb := pq.h
    clear gc0 gn0 csc
    generalize pq.v = w2 at hb ⊢
    clear pq
    replace rf : ∀ o, w2.frozen? ⟨w.heap.size + 2, o, none⟩ = false := fun o => (hb.frozen (p := ⟨w.heap.size + 2, o, none⟩) (show w.heap.size + 2 < _ from block_lt r0)).trans (rf o)
    replace r0 := kept hb (block_lt r0) r0
    replace r1 := kept hb (block_lt r1) r1
    replace bb := Lib.hid (bb.out.trans (hb.mono bb.out.size))
    clear hb c0 n0 nf
    go_wp2_with fail
    refine bodyPost_ret (v := .tuple #[.agg #[.int .i64 0, .slice none 0 0], .bool false]) (by simp [results, Try.results29, go_sem, r0, r1]) rfl ?_
    exact ⟨⟨none, 0, rfl, own_nil _ _⟩, (bb.out.setCell (by simp; omega) _).setCell (by simp; omega) _⟩
  by_cases h1 : S ≤ N
  · obtain rfl : O = .no := hO.out.symm.trans (nto_no (.inr (by rw [hS.out]; exact h1)))
    go_enter Try.func29, Try.ntmps29
    go_upto_region 1 with fail
    rw [← hW0]
    clear hW0
    refine wp_region_bw (by kernel_rfl) (by kernel_rfl) ?_
    repeat (go_big_quiet_step (first | (with_reducible exact csc.out _)))
    refine wpQuiet_nil ?_
    intro _ hw'
    obtain ⟨pq, rfl⟩ := hw'
    have hb := pq.h
    clear gc0 gn0 csc
    generalize pq.v = w2 at hb ⊢
    clear pq
    replace rf : ∀ o, w2.frozen? ⟨w.heap.size + 2, o, none⟩ = false := fun o => (hb.frozen (p := ⟨w.heap.size + 2, o, none⟩) (show w.heap.size + 2 < _ from block_lt r0)).trans (rf o)
    replace r0 := kept hb (block_lt r0) r0
    replace r1 := kept hb (block_lt r1) r1
    replace bb := Lib.hid (bb.out.trans (hb.mono bb.out.size))
    clear hb c0 n0 nf
    go_wp2_with fail
    refine bodyPost_ret (v := .tuple #[.agg #[.int .i64 0, .slice none 0 0], .bool false]) (by simp [results, Try.results29, go_sem, r0, r1]) rfl ?_
    exact ⟨⟨none, 0, rfl, own_nil _ _⟩, (bb.out.setCell (by simp; omega) _).setCell (by simp; omega) _⟩
  obtain ⟨hct, hNc, hOe⟩ := nto_yes (R := R) (C := C) (N := N) (by omega) (by rw [hS.out]; omega)
  rw [hO.out, l2.out] at hOe
  obtain ⟨N, rfl⟩ := Int.eq_ofNat_of_zero_le (by omega : 0 ≤ N)
  rw [Int.toNat_natCast] at hOe
  subst hOe
  have hsv := (ctdB_parts hct).1
  have h16 := (ctdB_parts hct).2
  obtain ⟨⟨hn1, hn6⟩, ⟨hw1, hw6⟩, hbR, hbC⟩ := sumsB_parts hsv
  have hc16 := cnt_16 h16
  have hnl := nth_len hNc
  rw [l1.out] at hn1 hn6 hbR hbC hnl
  rw [l2.out] at hw1 hw6 hbR hbC
  have hN6 : N ≤ 65536 := by omega
  have hway : (N : Int) < wayI m R C := by
    have := way_num m R C l2.out (fun j hj => (hbC j hj).1)
    rw [this, l1.out]
    have e : cntS R C = nOf (fitP R C m n) m n := by unfold cntS; rw [l1.out, l2.out]
    omega
  have hpre : Hid (Pre m R C N 0 [] C N) := pre_start l2.out (fun j hj => ⟨(hbC j hj).1, by have := (hbC j hj).2; omega⟩) (by omega) hway
  have hsome : Hid (∀ L, L ∈ choC m R → 1 ≤ L.length) := cho_some hw6 (fun i hi => hbR i (by have := l1.out; omega))
  have hend : Hid (∀ xs, NthR m R C N xs → xs = nthS R C N) := fun xs hx => by
    rw [← l2.out] at hx
    exact (nthr_nth hsv hx).2
  replace hbC := Lib.hid (fun j (hj : j < m) => show 0 ≤ C.getD j 0 ∧ C.getD j 0 ≤ 7 from ⟨(hbC j hj).1, by have := (hbC j hj).2; omega⟩)
  obtain ⟨Z, hZ⟩ : ∃ Z, nthS R C N = Z := ⟨_, rfl⟩
  rw [hZ] at hend hnl ⊢
  replace hZ := Lib.hid hZ
  have hmk := fun wx => run_make_row' (P := Try.prog) 23 3 (.int .i64 0) 8 Try.underlying23 infoInt rfl .i64 .i64 n (by omega) (by omega) wx
  clear hct hNc hsv h16 hbR hc16 hway hO hS
  go_enter Try.func29, Try.ntmps29
  go_upto_region 1 with fail
  rw [← hW0]
  clear hW0
  refine wp_region_bw (by kernel_rfl) (by kernel_rfl) ?_
  repeat (go_big_quiet_step (first | (with_reducible exact csc.out _)))
  refine wpQuiet_nil ?_
  intro _ hw'
  obtain ⟨pq, rfl⟩ := hw'
  have hb := pq.h
  clear gc0 gn0 csc
  generalize pq.v = w2 at hb ⊢
  clear pq
  replace nf := (hb.frozen (p := ⟨w.heap.size + 1, 0, none⟩) (block_lt n0)).trans nf
  replace rf : ∀ o, w2.frozen? ⟨w.heap.size + 2, o, none⟩ = false := fun o => (hb.frozen (p := ⟨w.heap.size + 2, o, none⟩) (show w.heap.size + 2 < _ from block_lt r0)).trans (rf o)
  replace c0 := kept hb (block_lt c0) c0
  replace n0 := kept hb (block_lt n0) n0
  replace r0 := kept hb (block_lt r0) r0
  replace r1 := kept hb (block_lt r1) r1
  replace rR := Lib.hid (rR.out.bel hb)
  replace rC := Lib.hid (rC.out.bel hb)
  replace bb := Lib.hid (bb.out.trans (hb.mono bb.out.size))
  clear hb
  go_upto_region 3 with fail
  go_cut [8] (fun s8 wx => ∃ (k8 g8 : Nat), s8 = .pointer (some ⟨k8, 0, none⟩) ∧ wx.cell? ⟨k8, 0, none⟩ = some (.int .i64 m) ∧ wx.cell? ⟨k8, 1, none⟩ = some (.slice (some ⟨g8, 0, none⟩) n n) ∧ Hid (OwnI wx w2.heap.size (some ⟨g8, 0, none⟩) n n (List.replicate n 0)) ∧ k8 ≠ g8 ∧ w2.heap.size ≤ g8 ∧ w2.heap.size ≤ k8 ∧ Hid (Below w2.heap.size w2 wx))
  case first =>
    have M1 := Lib.hid (mkn1 w2 (m : Int) (n := n) (by omega))
    have M2 := Lib.hid (mkn2 w2 (m : Int) (n := n) (by omega))
    go_wp2_with fail
    go_region_held3 (fun W' => W'.cell? ⟨w.heap.size, 0, none⟩ = some (.slice b m cb)) (first | go_keep) (fail)
    · obtain ⟨U0, g2, k2, eU, eg, ekk, hb, z0, z1, oz, hne, hge, hke⟩ := M1.out
      replace oz := Lib.hid oz
      replace hb := Lib.hid hb
      clear M1 M2
      go_wp2_with fail
      rw [← eU, ← ekk]
      go_meet
      exact ⟨k2, g2, rfl, z0, z1, oz, hne, hge, hke, hb⟩
    · obtain ⟨U0, g2, k2, eU, eg, ekk, hb, z0, z1, oz, hne, hge, hke⟩ := M2.out
      replace oz := Lib.hid oz
      replace hb := Lib.hid hb
      clear M1 M2
      go_wp2_with fail
      rw [← eU, ← ekk]
      go_meet
      exact ⟨k2, g2, rfl, z0, z1, oz, hne, hge, hke, hb⟩
  case rest =>
    obtain ⟨k8, g8, rfl, z0, z1, oz, hne, hge, hke, hb⟩ := hcut
    obtain ⟨wa, rfl⟩ : ∃ wa : World, wa = wc := ⟨_, rfl⟩
    have hr2 : w.heap.size + 2 < w2.heap.size := block_lt r0
    replace nf := (hb.out.frozen (p := ⟨w.heap.size + 1, 0, none⟩) (block_lt n0)).trans nf
    replace rf : ∀ o, wa.frozen? ⟨w.heap.size + 2, o, none⟩ = false := fun o => (hb.out.frozen (p := ⟨w.heap.size + 2, o, none⟩) hr2).trans (rf o)
    replace c0 := kept hb.out (block_lt c0) c0
    replace n0 := kept hb.out (block_lt n0) n0
    replace r0 := kept hb.out (block_lt r0) r0
    replace r1 := kept hb.out (block_lt r1) r1
    replace rR := Lib.hid (rR.out.bel hb.out)
    have hws := bb.out.size
    replace bb := Lib.hid (bb.out.trans (hb.out.mono bb.out.size))
    have hg8c : g8 < wa.heap.size := (rng_own oz.out _ rfl).2
    have hk8c : k8 < wa.heap.size := block_lt z0
    clear hb hmk rC
    go_wp2_with fail
    refine (choices_any m hw6 a n cap R wa rR.out hn6).mono ?_
    rintro e w4 ⟨⟨g, rfl, hA⟩, hb4⟩
    have hgf := hA.far
    obtain ⟨U0, hU0⟩ : ∃ U0, w4.alloc (.cells #[.slice (some ⟨g, 0, none⟩) n n] 64) = U0 := ⟨_, rfl⟩
    have hb5 : Below w4.heap.size w4 U0 := by rw [← hU0]; exact (Below.refl _ _).alloc (Nat.le_refl _) _
    obtain ⟨k9, hk9⟩ : ∃ k, w4.heap.size = k := ⟨_, rfl⟩
    have l0 : U0.cell? ⟨k9, 0, none⟩ = some (.slice (some ⟨g, 0, none⟩) n n) := by rw [← hU0, ← hk9]; simp
    have hbc : Below wa.heap.size wa U0 := hb4.trans (hb5.mono hb4.size)
    have hN : Hid (Nt w U0 b m cb n k8 g8 k9 g wa.heap.size N ([] ++ List.replicate (n - 0) 0) (oneL [] ++ choC m (R.drop 0))) :=
      ⟨kept hbc (block_lt c0) c0, kept hbc (block_lt n0) n0, (hbc.frozen (p := ⟨w.heap.size + 1, 0, none⟩) (block_lt n0)).trans nf, kept hbc (block_lt r0) r0, kept hbc (block_lt r1) r1,
       fun o => (hbc.frozen (p := ⟨w.heap.size + 2, o, none⟩) (show w.heap.size + 2 < _ from block_lt r0)).trans (rf o), kept hbc (block_lt z0) z0, kept hbc (block_lt z1) z1, l0, (oz.out.mono hws).bel hbc, (ChR.of (C := choC m R) hA (by rw [cho_len, l1.out]) hsome.out).bel hb5,
       bb.out.trans (hbc.mono bb.out.size), by omega⟩
    obtain ⟨Bg, hBg⟩ : ∃ B, wa.heap.size = B := ⟨_, rfl⟩
    rw [hBg] at hN
    have hys : Hid (∀ y, y ∈ ([] : List Int) → 0 ≤ y ∧ y ≤ 63) := fun y hy => by cases hy
    go_upto_region 5 with fail
    (try rw [hU0])
    (try rw [hk9])
    clear hb4 hb5 hbc hU0 hA hBg rR bb c0 n0 nf r0 r1 rf z0 z1 oz
    have i1 := hN.out.i1
    replace hsome := True.intro
    go_wp2_with fail
    go_loopw [35] (fun i wr => ∃ (k : Nat) (ys cs : List Int) (nv : Int), k ≤ n ∧ i = .int .i64 k ∧ Hid (Pre m R C N k ys cs nv) ∧ Hid (∀ y, y ∈ ys → 0 ≤ y ∧ y ≤ 63) ∧ Hid (Nt w wr b m cb n k8 g8 k9 g Bg nv (ys ++ List.replicate (n - k) 0) (oneL ys ++ choC m (R.drop k)))) (fun i _ => n - (intOf i).toNat)
    case atStart => exact ⟨0, [], C, N, Nat.zero_le _, rfl, hpre, hys, hN⟩
    case round =>
      clear hN hpre hys i1 l0
      obtain ⟨k, ys, cs, nv, hk, rfl, hpre, hys, hN⟩ := hrel
      obtain ⟨wo, rfl⟩ : ∃ wo : World, wo = wr := ⟨_, rfl⟩
      by_cases hlt : k < n
      case neg =>
        obtain rfl : k = n := by omega
        obtain rfl : ys = Z := hend.out ys (by have := hpre.out; rw [← l1.out] at this; exact this.done)
        have hN1 := hN.out
        rw [Nat.sub_self, List.replicate_zero, List.append_nil] at hN1
        have i0 := hN1.i0
        have i1 := hN1.i1
        have r0 := hN1.r0
        have r1 := hN1.r1
        have rf := hN1.rf
        have ho := Lib.hid (hN1.own.up (B' := w.heap.size + 3) (by have := hN1.d1; omega))
        have bb := Lib.hid hN1.bel
        clear hN hN1
        go_wp2_with fail
        refine bodyPost_ret (v := .tuple #[.agg #[.int .i64 m, .slice (some ⟨g8, 0, none⟩) k k], .bool true]) (by simp [results, Try.results29, go_sem, r0, r1]) rfl ?_
        have lL : (Out.mk true (m : Int) ys).xs.length = k := hnl
        refine ⟨⟨some ⟨g8, 0, none⟩, k, by rw [lL], ?_⟩, (bb.out.setCell (by simp; omega) _).setCell (by simp; omega) _⟩
        rw [lL]
        exact ((ho.out.store (by simp) _).store (by simp) _).mono (by omega)
      have hkR : k < R.length := by have := l1.out; omega
      obtain ⟨W1, hW1⟩ : ∃ W1, wo.alloc (.cells #[.int .i64 k] 3) = W1 := ⟨_, rfl⟩
      have hb1 : Below wo.heap.size wo W1 := by rw [← hW1]; exact (Below.refl _ _).alloc (Nat.le_refl _) _
      obtain ⟨ki, hki⟩ : ∃ q, wo.heap.size = q := ⟨_, rfl⟩
      have j0 : W1.cell? ⟨ki, 0, none⟩ = some (.int .i64 k) := by rw [← hW1, ← hki]; simp
      have hN1 := Lib.hid (hN.out.move hb1)
      have hkw : w.heap.size + 2 < wo.heap.size := block_lt hN.out.r0
      have hkg8 : g8 < ki := by rw [← hki]; exact (rng_own hN.out.own _ rfl).2
      obtain ⟨L, hL⟩ : ∃ L, withL m (R.getD k 0) (pn m) = L := ⟨_, rfl⟩
      have hyk := hpre.out.hy
      have hat := one_at (W := m) hyk hkR
      have hset := one_set (W := m) hyk hkR
      rw [hL] at hat
      have hsm := one_small (ys := ys) hw6 hys.out (pn_64 hw6) (R.drop k)
      have hL64 := (hsm L (List.mem_of_getElem? hat)).1
      obtain ⟨f, hf⟩ : ∃ f : Nat → Int, (fun t => ckr ((oneL ys ++ choC m (R.drop k)).set k (L.take t)) (padL C)) = f := ⟨_, rfl⟩
      have hfe : ∀ t, f t = ckr ((oneL ys ++ choC m (R.drop k)).set k (L.take t)) (padL C) := fun t => by rw [← hf]
      have hsr := fun (q : Nat) (wx : World) (hq : q < L.length) (hbx : Below W1.heap.size W1 wx) => nthf_any w.heap.size (w.heap.size + 1) ki k9 g n (oneL ys ++ choC m (R.drop k)) b m cb C k q nv (f (q + 1)) wx (hN1.out.move hbx).l0 (hN1.out.move hbx).c0 (kept hbx (block_lt j0) j0) (hN1.out.move hbx).n0 (hN1.out.move hbx).ch.read (hC0.out.bel (hN1.out.move hbx).bel) hn6 hw1 hw6 hbC.out hsm hlt L hat hq (hfe (q + 1)).symm
      have hse := Lib.hid (search_nth (some ⟨k9, 0, none⟩) (some ⟨w.heap.size, 0, none⟩) (some ⟨ki, 0, none⟩) (some ⟨w.heap.size + 1, 0, none⟩) L.length (fun q => decide (nv < f (q + 1))) W1 hL64 hsr)
      have hcbf := Lib.hid (fun (p : Nat) (wx : World) (hp : p ≤ L.length) (hx : RowsC wx g 0 n (oneL ys ++ choC m (R.drop k))) (hc : Row wx b m C) => before_any g 0 n n (oneL ys ++ choC m (R.drop k)) b m cb C k p wx hx hc hn6 hw1 hw6 hbC.out hsm hlt L hat hp)
      have l0 := hN1.out.l0
      obtain ⟨b2, o2, c2, d1, _, _, _, _⟩ := hN1.out.ch.cut hlt hat
      have hat2 := Lib.hid hat
      have hfe2 := Lib.hid hfe
      have hset2 := Lib.hid hset
      have hL2 := Lib.hid hL
      obtain ⟨len, hlen⟩ : ∃ len, L.length = len := ⟨_, rfl⟩
      rw [hlen] at hse d1 hL64
      clear hat hfe hsr hf hset hL hsm hb1
      have hN1b := hN1
      clear hN
      go_upto_region 8 with fail
      (try rw [hW1])
      (try rw [hki])
      clear hW1
      go_wp2_with fail
      refine hse.out.mono ?_
      rintro e w5 ⟨⟨p, rfl, hp0, hp1, hp2⟩, hb5⟩
      obtain ⟨hpl, x, q1, q2, q3, q4, hpre2⟩ := nth_pick hpre.out hw6 hkR (fun t => by rw [hL2.out]; exact hfe2.out t) (by rw [hL2.out]; omega) hp1 (by rw [hL2.out, hlen]; exact hp2)
      rw [hL2.out] at hpl q1
      have hN5 := Lib.hid (hN1.out.move hb5)
      have j5 := kept hb5 (block_lt j0) j0
      have hpre3 := Lib.hid hpre2
      have hki2 : w.heap.size + 2 < ki := by rw [← hki]; exact hkw
      obtain ⟨v, hv⟩ : ∃ v, f p = v := ⟨_, rfl⟩
      rw [hv] at q3 q4 hpre3
      have hnb := hpre.out.bd hw6 (by have := l1.out; omega)
      have hiw : IntKind.i64.wrap (nv - v) = nv - v := IntWalk.i64_in _ ⟨by omega, by omega⟩
      have hcb : Hid (∀ wx, RowsC wx g 0 n (oneL ys ++ choC m (R.drop k)) → Row wx b m C → Calls Try.prog 62 #[.slice (some ⟨g, 0, none⟩) n n, .slice b m cb, .int .i64 k, .int .i64 p] wx fun e w' => e = .returned (.int .i64 v) ∧ Below wx.heap.size wx w') := fun wx hx hc => by
        have := hcbf.out p wx (by omega) hx hc
        rwa [← hfe2.out p, hv] at this
      have hNd := Lib.hid (hN5.out.move ((Below.refl _ _).drew))
      have jd : w5.drew.cell? ⟨ki, 0, none⟩ = some (.int .i64 k) := kept ((Below.refl _ _).drew) (block_lt j5) j5
      have hRd := Lib.hid hNd.out.ch.read
      have hCd := Lib.hid (hC0.out.bel hNd.out.bel)
      have c0 := hN5.out.c0
      have n0 := hN5.out.n0
      have l0 := hN5.out.l0
      have ys63 : Hid (∀ y, y ∈ ys ++ [(x : Int)] → 0 ≤ y ∧ y ≤ 63) := fun y hy => by
        rcases List.mem_append.1 hy with h | h
        · exact hys.out y h
        · rw [List.mem_singleton] at h
          have := pn_64 hw6
          omega
      replace hv := Lib.hid hv
      replace q1 := Lib.hid q1
      clear hpre2 hb5 hp0 hp1 hp2 hcbf hse hN1 hN1b j0 q2 hnb d1
      go_upto_region 9 with fail
      go_cut [51] (fun s51 wx => Hid (Nt w wx b m cb n k8 g8 k9 g Bg (nv - v) (ys ++ List.replicate (n - k) 0) (oneL ys ++ choC m (R.drop k))) ∧ wx.cell? ⟨ki, 0, none⟩ = some (.int .i64 k))
      case first =>
        go_wp2_with fail
        go_region_law (first | ((go_simp; go_at_call 62; (with_reducible refine (hcb.out _ hRd.out hCd.out).mono ?_); rintro e w6 ⟨rfl, hb6⟩; have hN6 := Lib.hid (hNd.out.move hb6); have n0 := hN6.out.n0; have nf := hN6.out.nf; have c0 := hN6.out.c0; have l0 := hN6.out.l0; have j6 := kept hb6 (block_lt jd) jd; clear hb6)))
        all_goals
          go_wp2_with fail
          go_meet
          exact ⟨Lib.hid (hN6.out.setn (nv - v)), other_cell j6 (by omega)⟩
      case rest =>
        obtain ⟨hN7, j7⟩ := hcut
        obtain ⟨wq, rfl⟩ : ∃ wq : World, wq = wc := ⟨_, rfl⟩
        obtain ⟨W2, hW2⟩ : ∃ W2, wq.drew = W2 := ⟨_, rfl⟩
        have hb7 : Below wq.heap.size wq W2 := by rw [← hW2]; exact (Below.refl _ _).drew
        have hN8 := hN7.out.move hb7
        have j8 := kept hb7 (block_lt j7) j7
        replace i1 := hN8.i1
        replace l0 := hN8.l0
        obtain ⟨b3, o3, c3, e1, e2, e3, e4, _⟩ := hN8.ch.cut hlt hat2.out
        obtain ⟨ab, ao, eq, e5⟩ := row_at e3 hpl
        cases eq
        rw [q1.out] at e5
        rw [hlen] at e1 e2
        have hck := own_cell hN8.own (i := k) (by omega)
        rw [fill_get hyk hlt] at hck
        have hfz := hN8.own.frozen
        have hN9 := hN8.setx k x
        rw [fill_one hyk hlt] at hN9
        obtain ⟨W3, hW3⟩ : ∃ W3, (W2.setCell ⟨g8, k, none⟩ (.int .i64 x)).drew = W3 := ⟨_, rfl⟩
        have hb8 : Below (W2.setCell ⟨g8, k, none⟩ (.int .i64 x)).heap.size (W2.setCell ⟨g8, k, none⟩ (.int .i64 x)) W3 := by rw [← hW3]; exact (Below.refl _ _).drew
        have hN10 := hN9.move hb8
        have j9 : W3.cell? ⟨ki, 0, none⟩ = some (.int .i64 k) := kept hb8 (block_lt (other_cell j8 (by have := hN8.d1; have := hkg8; omega))) (other_cell j8 (by have := hN8.d1; have := hkg8; omega))
        obtain ⟨b4, o4, c4, f1, f2, f3, f4, f5⟩ := hN10.ch.cut hlt hat2.out
        have f6 := f5 p hpl
        rw [q1.out, hset2.out, one_next] at f6
        rw [hlen] at f1 f2
        have hN11 := Lib.hid (hN10.setc f6)
        have l3 := hN10.l0
        have hpl2 : p < len := by omega
        have hp1 : IntKind.i64.wrap ((p : Int) + 1) = (p : Int) + 1 := IntWalk.i64_in _ ⟨by omega, by omega⟩
        have hpc : p + 1 ≤ c4 := by omega
        have hpc2 : p ≤ c4 := by omega
        have hpcn : ¬ c4 = p := by omega
        have hpp : p + 1 - p = 1 := by omega
        have hs1 : 0 ≤ (p : Int) + 1 := by omega
        have hs2 : (p : Int) + 1 ≤ (c4 : Int) := by omega
        replace hlen := Lib.hid hlen
        clear hb7 hb8 hN8 hN9 hN10 hN7 hN5 hNd hRd hCd e3 f3 f5 f6 hpl j7 hcb j5 jd hat2 hset2 hL2 hfe2
        go_upto_region 10 with fail
        refine region_tail 11 (by kernel_rfl) (by kernel_rfl) W2 hW2 ?_
        simp only [List.take_succ_cons, List.take_zero, List.drop_succ_cons, List.drop_zero]
        clear hW2
        repeat (first | still_step)
        refine wpStill_nil ?_
        go_upto_region 11 with fail
        refine region_tail 11 (by kernel_rfl) (by kernel_rfl) W3 hW3 ?_
        simp only [List.take_succ_cons, List.take_zero, List.drop_succ_cons, List.drop_zero]
        clear hW3
        repeat (first | still_step)
        refine wpStill_nil ?_
        go_wp2_with fail
        exact ⟨⟨k + 1, ys ++ [(x : Int)], takeI cs (x : Nat), nv - v, by omega, by go_num, hpre3, ys63, hN11⟩, by simp [intOf]; omega⟩
end Go.Proofs.Ytnfkafaolelkbaa

