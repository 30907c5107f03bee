/-
  For every slice of bytes the law FnTowardFirst answers true: no earlier switch of the list comes closer; nothing that was there is written; no condition.
-/
import Derived.Test.YtgamkmkpmcenpaaO
import Derived.Test.YtgamkmkpmcenpaaK
import Derived.Deep.RegionLaw
import Derived.Test.YtgamkmkpmcenpaaWg
import Derived.Test.YtgamkmkpmcenpaaKh
import Derived.Test.YtgamkmkpmcenpaaKc
namespace Go.Proofs.Ytgamkmkpmcenpaa.LFTowardFirst
open Go.ChangeShapes Go.WideShapes Go.ChangeAt Go.RowKit Go.Joins
theorem ne_at {A B C D P Q R S : Nat} (h : (P, Q, R, S) ≠ (A, B, C, D)) : P ≠ A ∨ (P = A ∧ Q ≠ B) ∨ (P = A ∧ Q = B ∧ R ≠ C) ∨ (P = A ∧ Q = B ∧ R = C ∧ S ≠ D) := by
  by_cases h1 : P = A
  · by_cases h2 : Q = B
    · by_cases h3 : R = C
      · by_cases h4 : S = D
        · exact absurd (by rw [h1, h2, h3, h4]) h
        · exact .inr (.inr (.inr ⟨h1, h2, h3, h4⟩))
      · exact .inr (.inr (.inl ⟨h1, h2, h3⟩))
    · exact .inr (.inl ⟨h1, h2⟩)
  · exact .inl h1
theorem at_pre {W n : Nat} {xs ys : List Int} {pre post Z : List SwT} {s : SwT} (hI : Im W n xs) (hZ : swL (cellOf xs) W n = Z) (e : Z = pre ++ s :: post) (hp : ∀ t ∈ pre, towP xs ys W n t = false) (hs : towP xs ys W n s = true) {k : Nat} (hk : k < pre.length) (hkz : k < Z.length) :
    ∃ P Q R S : Nat, Z[k]'hkz = (P, Q, R, S) ∧ okB W xs P Q R S = true ∧ Im W n (flL xs W n P Q R S) ∧ ¬ farL (flL xs W n P Q R S) ys W n < farL xs ys W n ∧ (P, Q, R, S) ≠ s := by
  obtain ⟨⟨P, Q, R, S⟩, et⟩ : ∃ t, Z[k]'hkz = t := ⟨_, rfl⟩
  have hm : (P, Q, R, S) ∈ swL (cellOf xs) W n := by rw [hZ, ← et]; exact List.getElem_mem _
  have hin : (P, Q, R, S) ∈ pre := by
    subst e
    rw [List.getElem_append_left hk] at et
    rw [← et]; exact List.getElem_mem _
  have h1 := hp _ hin
  refine ⟨P, Q, R, S, et, ?_, fl_im hI P Q R S, ?_, fun e2 => ?_⟩
  · obtain ⟨a1, a2, a3, a4, a5⟩ := sw_at hm
    rw [okB_yes hI a1 a2 a3 a4]; exact a5
  · unfold towP at h1
    exact of_decide_eq_false h1
  · rw [e2, hs] at h1; cases h1


set_option maxHeartbeats 4000000 in
set_option maxRecDepth 100000 in
theorem walk (a : Option Addr) (len cap : Nat) (zs : List Int) (w : World) (h : Bys w a len zs) (hl : len ≤ cap) (hm : cap ≤ 9223372036854775807) :
    Calls Try.prog 7 #[.slice a len cap] w fun e w' => e = .returned (.bool true) ∧ Below w.heap.size w w' := by
  by_cases hbig : 1048576 < len
  · clear h
    go_enter Try.func7, Try.ntmps7
    go_wp2_with fail
    go_ret
    exact ⟨rfl, Below.refl _ _⟩
  go_enter Try.func7, Try.ntmps7
  go_wp2_with fail
  refine (draw_DrawSwitchToward a len cap zs _ h hl hm).mono ?_
  rintro e w1 ⟨V, s, n, cg, xs, V2, t, m, ch, ys, rfl, hX, hY, hnm, hb1⟩
  clear h hl hm
  have bb := Lib.hid hb1
  have p := Lib.hid hX
  have q := Lib.hid hY
  obtain ⟨w2, hw2⟩ : ∃ w2, w2 = (w1.alloc (.cells #[.int .i64 V, .slice s n cg] 25)).alloc (.cells #[.int .i64 V2, .slice t m ch] 25) := ⟨_, rfl⟩
  have hb : Below w1.heap.size w1 w2 := by subst hw2; exact ((Below.refl _ _).alloc (Nat.le_refl _) _).alloc (by simp) _
  have p0 : w2.cell? ⟨w1.heap.size, 0, none⟩ = some (.int .i64 V) := by subst hw2; go_simp
  have p1 : w2.cell? ⟨w1.heap.size, 1, none⟩ = some (.slice s n cg) := by subst hw2; go_simp
  have q0 : w2.cell? ⟨w1.heap.size + 1, 0, none⟩ = some (.int .i64 V2) := by subst hw2; go_simp
  have q1 : w2.cell? ⟨w1.heap.size + 1, 1, none⟩ = some (.slice t m ch) := by subst hw2; go_simp
  clear hX hY hb1
  have szw2 := hb.size
  replace p := Lib.hid (p.out.bel hb)
  replace q := Lib.hid (q.out.bel hb)
  replace bb := Lib.hid (bb.out.trans (hb.mono bb.out.size))
  clear hb
  go_wp2_with fail
  rw [← hw2]
  clear hw2
  cases hT : towOut V xs V2 ys with
  | none =>
    refine (tow_noi hT (by omega) (by omega) _ _ _ _ _ p.out q.out).mono ?_
    rintro e w3 ⟨rfl, hb⟩
    have szw3 := hb.size
    replace p0 := kept hb (block_lt p0) p0
    replace p1 := kept hb (block_lt p1) p1
    replace q0 := kept hb (block_lt q0) q0
    replace q1 := kept hb (block_lt q1) q1
    replace p := Lib.hid (p.out.bel hb)
    replace q := Lib.hid (q.out.bel hb)
    replace bb := Lib.hid (bb.out.trans (hb.mono bb.out.size))
    clear hb
    have hbx : Below w3.heap.size w3 (w3.alloc (.cells #[.int .i64 0, .int .i64 0, .int .i64 0, .int .i64 0] 37)) := (Below.refl _ _).alloc (Nat.le_refl _) _
    replace p0 := kept hbx (block_lt p0) p0
    replace p1 := kept hbx (block_lt p1) p1
    replace q0 := kept hbx (block_lt q0) q0
    replace q1 := kept hbx (block_lt q1) q1
    replace p := Lib.hid (p.out.bel hbx)
    replace q := Lib.hid (q.out.bel hbx)
    replace bb := Lib.hid (bb.out.trans (hbx.mono bb.out.size))
    clear hbx
    have o0 : (w3.alloc (.cells #[.int .i64 0, .int .i64 0, .int .i64 0, .int .i64 0] 37)).cell? ⟨w3.heap.size, 0, none⟩ = some (.int .i64 0) := by simp
    have o1 : (w3.alloc (.cells #[.int .i64 0, .int .i64 0, .int .i64 0, .int .i64 0] 37)).cell? ⟨w3.heap.size, 1, none⟩ = some (.int .i64 0) := by simp
    have o2 : (w3.alloc (.cells #[.int .i64 0, .int .i64 0, .int .i64 0, .int .i64 0] 37)).cell? ⟨w3.heap.size, 2, none⟩ = some (.int .i64 0) := by simp
    have o3 : (w3.alloc (.cells #[.int .i64 0, .int .i64 0, .int .i64 0, .int .i64 0] 37)).cell? ⟨w3.heap.size, 3, none⟩ = some (.int .i64 0) := by simp
    go_wp2_with fail
    refine (tow_nos hT (by omega) (by omega) _ _ _ _ _ p.out q.out).mono ?_
    rintro e w4 ⟨rfl, hb⟩
    have szw4 : w3.heap.size + 1 ≤ w4.heap.size := by have := hb.size; simpa using this
    replace p0 := kept hb (block_lt p0) p0
    replace p1 := kept hb (block_lt p1) p1
    replace q0 := kept hb (block_lt q0) q0
    replace q1 := kept hb (block_lt q1) q1
    replace o0 := kept hb (block_lt o0) o0
    replace o1 := kept hb (block_lt o1) o1
    replace o2 := kept hb (block_lt o2) o2
    replace o3 := kept hb (block_lt o3) o3
    replace p := Lib.hid (p.out.bel hb)
    replace q := Lib.hid (q.out.bel hb)
    replace bb := Lib.hid (bb.out.trans (hb.mono bb.out.size))
    clear hb
    have hbx : Below w4.heap.size w4 (w4.alloc (.cells #[.int .i64 0, .int .i64 0, .int .i64 0, .int .i64 0] 37)) := (Below.refl _ _).alloc (Nat.le_refl _) _
    replace p0 := kept hbx (block_lt p0) p0
    replace p1 := kept hbx (block_lt p1) p1
    replace q0 := kept hbx (block_lt q0) q0
    replace q1 := kept hbx (block_lt q1) q1
    replace o0 := kept hbx (block_lt o0) o0
    replace o1 := kept hbx (block_lt o1) o1
    replace o2 := kept hbx (block_lt o2) o2
    replace o3 := kept hbx (block_lt o3) o3
    replace p := Lib.hid (p.out.bel hbx)
    replace q := Lib.hid (q.out.bel hbx)
    replace bb := Lib.hid (bb.out.trans (hbx.mono bb.out.size))
    clear hbx
    have ow0 : (w4.alloc (.cells #[.int .i64 0, .int .i64 0, .int .i64 0, .int .i64 0] 37)).cell? ⟨w4.heap.size, 0, none⟩ = some (.int .i64 0) := by simp
    have ow1 : (w4.alloc (.cells #[.int .i64 0, .int .i64 0, .int .i64 0, .int .i64 0] 37)).cell? ⟨w4.heap.size, 1, none⟩ = some (.int .i64 0) := by simp
    have ow2 : (w4.alloc (.cells #[.int .i64 0, .int .i64 0, .int .i64 0, .int .i64 0] 37)).cell? ⟨w4.heap.size, 2, none⟩ = some (.int .i64 0) := by simp
    have ow3 : (w4.alloc (.cells #[.int .i64 0, .int .i64 0, .int .i64 0, .int .i64 0] 37)).cell? ⟨w4.heap.size, 3, none⟩ = some (.int .i64 0) := by simp
    go_wp2_with fail
    go_ret
    exact ⟨rfl, bb.out⟩
  | some sw =>
    obtain ⟨A, B, C, D⟩ := sw
    obtain ⟨W, rfl, rfl, rfl, hI, hJ, ht⟩ := towOut_im p.out.1 q.out.1 hT
    have hW6 := hI.w6
    have hW1 := hI.w1
    have hn1 := hI.l1
    have hn6 := hI.l6
    clear hT
    refine (tow_yes_i hI hJ ht _ _ _ _ _ p.out q.out).mono ?_
    rintro e w5 ⟨rfl, hb⟩
    have szw5 := hb.size
    replace p0 := kept hb (block_lt p0) p0
    replace p1 := kept hb (block_lt p1) p1
    replace q0 := kept hb (block_lt q0) q0
    replace q1 := kept hb (block_lt q1) q1
    replace p := Lib.hid (p.out.bel hb)
    replace q := Lib.hid (q.out.bel hb)
    replace bb := Lib.hid (bb.out.trans (hb.mono bb.out.size))
    clear hb
    have hbx : Below w5.heap.size w5 (w5.alloc (.cells #[.int .i64 A, .int .i64 B, .int .i64 C, .int .i64 D] 37)) := (Below.refl _ _).alloc (Nat.le_refl _) _
    replace p0 := kept hbx (block_lt p0) p0
    replace p1 := kept hbx (block_lt p1) p1
    replace q0 := kept hbx (block_lt q0) q0
    replace q1 := kept hbx (block_lt q1) q1
    replace p := Lib.hid (p.out.bel hbx)
    replace q := Lib.hid (q.out.bel hbx)
    replace bb := Lib.hid (bb.out.trans (hbx.mono bb.out.size))
    clear hbx
    have o0 : (w5.alloc (.cells #[.int .i64 A, .int .i64 B, .int .i64 C, .int .i64 D] 37)).cell? ⟨w5.heap.size, 0, none⟩ = some (.int .i64 A) := by simp
    have o1 : (w5.alloc (.cells #[.int .i64 A, .int .i64 B, .int .i64 C, .int .i64 D] 37)).cell? ⟨w5.heap.size, 1, none⟩ = some (.int .i64 B) := by simp
    have o2 : (w5.alloc (.cells #[.int .i64 A, .int .i64 B, .int .i64 C, .int .i64 D] 37)).cell? ⟨w5.heap.size, 2, none⟩ = some (.int .i64 C) := by simp
    have o3 : (w5.alloc (.cells #[.int .i64 A, .int .i64 B, .int .i64 C, .int .i64 D] 37)).cell? ⟨w5.heap.size, 3, none⟩ = some (.int .i64 D) := by simp
    go_wp2_with fail
    refine (tow_yes_s hI hJ ht _ _ _ _ _ p.out q.out).mono ?_
    rintro e w6 ⟨rfl, hb⟩
    have szw6 : w5.heap.size + 1 ≤ w6.heap.size := by have := hb.size; simpa using this
    replace p0 := kept hb (block_lt p0) p0
    replace p1 := kept hb (block_lt p1) p1
    replace q0 := kept hb (block_lt q0) q0
    replace q1 := kept hb (block_lt q1) q1
    replace o0 := kept hb (block_lt o0) o0
    replace o1 := kept hb (block_lt o1) o1
    replace o2 := kept hb (block_lt o2) o2
    replace o3 := kept hb (block_lt o3) o3
    replace p := Lib.hid (p.out.bel hb)
    replace q := Lib.hid (q.out.bel hb)
    replace bb := Lib.hid (bb.out.trans (hb.mono bb.out.size))
    clear hb
    have hbx : Below w6.heap.size w6 (w6.alloc (.cells #[.int .i64 A, .int .i64 B, .int .i64 C, .int .i64 D] 37)) := (Below.refl _ _).alloc (Nat.le_refl _) _
    replace p0 := kept hbx (block_lt p0) p0
    replace p1 := kept hbx (block_lt p1) p1
    replace q0 := kept hbx (block_lt q0) q0
    replace q1 := kept hbx (block_lt q1) q1
    replace o0 := kept hbx (block_lt o0) o0
    replace o1 := kept hbx (block_lt o1) o1
    replace o2 := kept hbx (block_lt o2) o2
    replace o3 := kept hbx (block_lt o3) o3
    replace p := Lib.hid (p.out.bel hbx)
    replace q := Lib.hid (q.out.bel hbx)
    replace bb := Lib.hid (bb.out.trans (hbx.mono bb.out.size))
    clear hbx
    have ow0 : (w6.alloc (.cells #[.int .i64 A, .int .i64 B, .int .i64 C, .int .i64 D] 37)).cell? ⟨w6.heap.size, 0, none⟩ = some (.int .i64 A) := by simp
    have ow1 : (w6.alloc (.cells #[.int .i64 A, .int .i64 B, .int .i64 C, .int .i64 D] 37)).cell? ⟨w6.heap.size, 1, none⟩ = some (.int .i64 B) := by simp
    have ow2 : (w6.alloc (.cells #[.int .i64 A, .int .i64 B, .int .i64 C, .int .i64 D] 37)).cell? ⟨w6.heap.size, 2, none⟩ = some (.int .i64 C) := by simp
    have ow3 : (w6.alloc (.cells #[.int .i64 A, .int .i64 B, .int .i64 C, .int .i64 D] 37)).cell? ⟨w6.heap.size, 3, none⟩ = some (.int .i64 D) := by simp
    obtain ⟨pre, post, hsp, hpre⟩ := tow_first ht
    have hst : towP xs ys W n (A, B, C, D) = true := by
      unfold towP; exact decide_eq_true (tow_mem ht).2
    have hlS := list_im hI
    have hlen := swl_135 (cellOf xs) (W := W) (n := n) (by omega) (by omega)
    obtain ⟨Z, hZ⟩ : ∃ Z, swL (cellOf xs) W n = Z := ⟨_, rfl⟩
    rw [hZ] at hsp hlS hlen
    obtain ⟨N, hN⟩ : ∃ N, Z.length = N := ⟨_, rfl⟩
    rw [hN] at hlen
    obtain ⟨M, hM⟩ : ∃ M, pre.length = M := ⟨_, rfl⟩
    have hMN : M < N := by rw [← hN, hsp, ← hM]; simp
    have hatM : Z[M]'(by rw [hN]; exact hMN) = (A, B, C, D) := by
      subst hsp
      subst hM
      simp
    have hbef := Lib.hid (fun (k : Nat) (hk : k < M) => at_pre hI hZ hsp hpre hst (show k < pre.length by rw [hM]; exact hk) (show k < Z.length by rw [hN]; omega))
    obtain ⟨f0, h0⟩ : ∃ f0, farL xs ys W n = f0 := ⟨_, rfl⟩
    replace hatM := Lib.hid hatM
    replace hlS := Lib.hid hlS
    replace hN := Lib.hid hN
    replace hI := Lib.hid hI
    replace hJ := Lib.hid hJ
    replace h0 := Lib.hid h0
    clear hsp hpre hst hZ ht hM
    go_wp2_with fail
    obtain ⟨w7, hwn⟩ : ∃ w7, w6.alloc (.cells #[.int .i64 A, .int .i64 B, .int .i64 C, .int .i64 D] 37) = w7 := ⟨_, rfl⟩
    have szw7 : w6.heap.size + 1 ≤ w7.heap.size := by rw [← hwn]; simp
    rw [hwn] at p0 p1 q0 q1 o0 o1 o2 o3 ow0 ow1 ow2 ow3 p q bb
    (try rw [hwn])
    clear hwn
    go_wp2_with fail
    refine (swlist_iN hlS.out hN.out (by omega) _ _ _ p.out).mono ?_
    rintro e w8 ⟨⟨al, cl, rfl, ho⟩, hb⟩
    have l := Lib.hid ho
    have szw8 := hb.size
    replace p0 := kept hb (block_lt p0) p0
    replace p1 := kept hb (block_lt p1) p1
    replace q0 := kept hb (block_lt q0) q0
    replace q1 := kept hb (block_lt q1) q1
    replace o0 := kept hb (block_lt o0) o0
    replace o1 := kept hb (block_lt o1) o1
    replace o2 := kept hb (block_lt o2) o2
    replace o3 := kept hb (block_lt o3) o3
    replace ow0 := kept hb (block_lt ow0) ow0
    replace ow1 := kept hb (block_lt ow1) ow1
    replace ow2 := kept hb (block_lt ow2) ow2
    replace ow3 := kept hb (block_lt ow3) ow3
    replace p := Lib.hid (p.out.bel hb)
    replace q := Lib.hid (q.out.bel hb)
    replace bb := Lib.hid (bb.out.trans (hb.mono bb.out.size))
    clear hb
    clear ho
    go_wp2_with fail
    go_loopw [10] (fun i wr => ∃ k : Nat, k ≤ M ∧ i = .int .i64 k ∧ Hid (Below w8.heap.size w8 wr)) (fun i _ => M - (intOf i).toNat)
    case atStart => exact ⟨0, Nat.zero_le _, rfl, Lib.hid (Below.refl _ _)⟩
    case round =>
      obtain ⟨k, hk, rfl, hbK⟩ := hrel
      replace p0 := kept hbK.out (block_lt p0) p0
      replace p1 := kept hbK.out (block_lt p1) p1
      replace q0 := kept hbK.out (block_lt q0) q0
      replace q1 := kept hbK.out (block_lt q1) q1
      replace o0 := kept hbK.out (block_lt o0) o0
      replace o1 := kept hbK.out (block_lt o1) o1
      replace o2 := kept hbK.out (block_lt o2) o2
      replace o3 := kept hbK.out (block_lt o3) o3
      replace ow0 := kept hbK.out (block_lt ow0) ow0
      replace ow1 := kept hbK.out (block_lt ow1) ow1
      replace ow2 := kept hbK.out (block_lt ow2) ow2
      replace ow3 := kept hbK.out (block_lt ow3) ow3
      replace p := Lib.hid (p.out.bel hbK.out)
      replace q := Lib.hid (q.out.bel hbK.out)
      replace l := Lib.hid (l.out.bel hbK.out)
      replace bb := Lib.hid (bb.out.trans (hbK.out.mono bb.out.size))
      have jj0 : (0 : Int) ≤ (k : Int) := Int.natCast_nonneg _
      have jjn : (k : Int) < (N : Int) := by omega
      by_cases hkM : k < M
      case neg =>
        obtain rfl : k = M := by omega
        obtain ⟨gl, el, l0, l1, l2, l3⟩ := srow_at l.out hMN hatM.out
        subst el
        go_wp2_with fail
        go_quiet (fail)
        go_wp2_with fail
        go_ret
        exact ⟨rfl, below_drewN bb.out nq⟩
      obtain ⟨w, hww⟩ : ∃ w' : World, w' = w8 := ⟨_, rfl⟩
      replace bb : Hid (Below w.heap.size w wr) := by rw [hww]; exact hbK
      clear hbK
      obtain ⟨P, Q, R, S, hz, hokP, hIm, hfar, hne⟩ := hbef.out k hkM
      obtain ⟨gl, el, l0, l1, l2, l3⟩ := srow_at l.out (show k < N by omega) hz
      subst el
      go_upto_region 10 with fail
      go_cut [66] (fun s66 wx => s66 = .bool true ∧ Hid (Below wr.heap.size wr wx))
      case first =>
        rcases ne_at hne with d | ⟨rfl, d⟩ | ⟨rfl, rfl, d⟩ | ⟨rfl, rfl, rfl, d⟩
        · have dd : ((P : Int) == (A : Int)) = false := by simpa using (show ¬ (P : Int) = A by omega)
          go_quiet (fail)
          go_wp2_with fail
          go_meet
          exact ⟨rfl, Lib.hid (below_drewN (Below.refl _ _) nq)⟩
        · have dd : ((Q : Int) == (B : Int)) = false := by simpa using (show ¬ (Q : Int) = B by omega)
          go_quiet (fail)
          go_wp2_with fail
          go_meet
          exact ⟨rfl, Lib.hid (below_drewN (Below.refl _ _) nq)⟩
        · have dd : ((R : Int) == (C : Int)) = false := by simpa using (show ¬ (R : Int) = C by omega)
          go_quiet (fail)
          go_wp2_with fail
          go_meet
          exact ⟨rfl, Lib.hid (below_drewN (Below.refl _ _) nq)⟩
        · have dd : ((S : Int) == (D : Int)) = false := by simpa using (show ¬ (S : Int) = D by omega)
          go_quiet (fail)
          go_wp2_with fail
          go_meet
          exact ⟨rfl, Lib.hid (below_drewN (Below.refl _ _) nq)⟩
      case rest =>
        obtain ⟨rfl, hbc⟩ := hcut
        obtain ⟨wq1, hwq⟩ : ∃ W, W = wc := ⟨_, rfl⟩
        subst hwq
        replace p0 := kept hbc.out (block_lt p0) p0
        replace p1 := kept hbc.out (block_lt p1) p1
        replace q0 := kept hbc.out (block_lt q0) q0
        replace q1 := kept hbc.out (block_lt q1) q1
        replace o0 := kept hbc.out (block_lt o0) o0
        replace o1 := kept hbc.out (block_lt o1) o1
        replace o2 := kept hbc.out (block_lt o2) o2
        replace o3 := kept hbc.out (block_lt o3) o3
        replace ow0 := kept hbc.out (block_lt ow0) ow0
        replace ow1 := kept hbc.out (block_lt ow1) ow1
        replace ow2 := kept hbc.out (block_lt ow2) ow2
        replace ow3 := kept hbc.out (block_lt ow3) ow3
        replace l0 := kept hbc.out (block_lt l0) l0
        replace l1 := kept hbc.out (block_lt l1) l1
        replace l2 := kept hbc.out (block_lt l2) l2
        replace l3 := kept hbc.out (block_lt l3) l3
        replace p := Lib.hid (p.out.bel hbc.out)
        replace q := Lib.hid (q.out.bel hbc.out)
        replace l := Lib.hid (l.out.bel hbc.out)
        replace bb := Lib.hid (bb.out.trans (hbc.out.mono bb.out.size))
        clear hbc
        obtain ⟨X, hX⟩ : ∃ X, flL xs W n P Q R S = X := ⟨_, rfl⟩
        rw [hX] at hIm hfar
        obtain ⟨f1, h1⟩ : ∃ f1, farL X ys W n = f1 := ⟨_, rfl⟩
        have hlt : (decide (f1 < f0)) = false := by rw [← h1, ← h0.out]; exact decide_eq_false (by omega)
        have hlt2 : ¬ f1 < f0 := of_decide_eq_false hlt
        replace hX := Lib.hid hX
        replace h1 := Lib.hid h1
        replace hIm := Lib.hid hIm
        replace hokP := Lib.hid hokP
        clear hne hfar hz
        clear o0 o1 o2 o3 ow0 ow1 ow2 ow3
        clear l
        go_upto_region 12 with fail
        go_cut [11, 12] (fun s11 s12 wx => ∃ (kc : Nat) (ac : Option Addr) (cc : Nat), s11 = .pointer (some ⟨kc, 0, none⟩) ∧ s12 = .bool true ∧ wx.cell? ⟨w1.heap.size, 0, none⟩ = some (.int .i64 W) ∧ wx.cell? ⟨w1.heap.size, 1, none⟩ = some (.slice s n cg) ∧ wx.cell? ⟨w1.heap.size + 1, 0, none⟩ = some (.int .i64 W) ∧ wx.cell? ⟨w1.heap.size + 1, 1, none⟩ = some (.slice t n ch) ∧ wx.cell? ⟨gl, k * 4, none⟩ = some (.int .i64 P) ∧ wx.cell? ⟨gl, k * 4 + 1, none⟩ = some (.int .i64 Q) ∧ wx.cell? ⟨gl, k * 4 + 2, none⟩ = some (.int .i64 R) ∧ wx.cell? ⟨gl, k * 4 + 3, none⟩ = some (.int .i64 S) ∧ wx.cell? ⟨kc, 0, none⟩ = some (.int .i64 W) ∧ wx.cell? ⟨kc, 1, none⟩ = some (.slice ac n cc) ∧ Hid (Row wx s n (xs)) ∧ Hid (Row wx t n (ys)) ∧ Hid (Row wx ac n (X)) ∧ Hid (Below w.heap.size w wx))
        case first =>
          have tok0 : True := trivial
          go_wp2_with fail
          replace p := Lib.hid (p.out.bel ((Below.refl _ _).drew))
          replace q := Lib.hid (q.out.bel ((Below.refl _ _).drew))
          replace bb := Lib.hid bb.out.drew
          have lq_p0 : w1.heap.size < wq1.heap.size := block_lt p0
          have lq_q0 : w1.heap.size + 1 < wq1.heap.size := block_lt q0
          go_region_held3 (fun W' => W'.cell? ⟨w1.heap.size, 0, none⟩ = some (.int .i64 W) ∧ W'.cell? ⟨w1.heap.size, 1, none⟩ = some (.slice s n cg) ∧ W'.cell? ⟨gl, k * 4, none⟩ = some (.int .i64 P) ∧ W'.cell? ⟨gl, k * 4 + 1, none⟩ = some (.int .i64 Q) ∧ W'.cell? ⟨gl, k * 4 + 2, none⟩ = some (.int .i64 R) ∧ W'.cell? ⟨gl, k * 4 + 3, none⟩ = some (.int .i64 S))
            (first | exact ⟨p0, p1, l0, l1, l2, l3⟩ | exact ⟨World.cell?_alloc_some p0, World.cell?_alloc_some p1, World.cell?_alloc_some l0, World.cell?_alloc_some l1, World.cell?_alloc_some l2, World.cell?_alloc_some l3⟩ | exact ⟨set2_cell p0 ltz_p0, set2_cell p1 ltz_p1, set2_cell l0 ltz_l0, set2_cell l1 ltz_l1, set2_cell l2 ltz_l2, set2_cell l3 ltz_l3⟩ | go_keep)
            (first | (go_at_call 33; have _t := tok0; (try (first | (obtain ⟨wz, hwz⟩ : ∃ wz, wz = (wq1.alloc (.cells #[.int .i64 0, .slice none 0 0] 25)).drew := ⟨_, rfl⟩; rw [← hwz]; have hbz : Below wq1.drew.heap.size wq1.drew wz := (by rw [hwz]; exact (Below.refl _ _).alloc (Nat.le_refl _) _); have ltz_p0 : w1.heap.size < wq1.heap.size := block_lt (show wq1.drew.cell? _ = _ from p0); replace p0 := kept hbz ltz_p0 (show wq1.drew.cell? _ = _ from p0); have ltz_p1 : w1.heap.size < wq1.heap.size := block_lt (show wq1.drew.cell? _ = _ from p1); replace p1 := kept hbz ltz_p1 (show wq1.drew.cell? _ = _ from p1); have ltz_q0 : w1.heap.size + 1 < wq1.heap.size := block_lt (show wq1.drew.cell? _ = _ from q0); replace q0 := kept hbz ltz_q0 (show wq1.drew.cell? _ = _ from q0); have ltz_q1 : w1.heap.size + 1 < wq1.heap.size := block_lt (show wq1.drew.cell? _ = _ from q1); replace q1 := kept hbz ltz_q1 (show wq1.drew.cell? _ = _ from q1); have ltz_l0 : gl < wq1.heap.size := block_lt (show wq1.drew.cell? _ = _ from l0); replace l0 := kept hbz ltz_l0 (show wq1.drew.cell? _ = _ from l0); have ltz_l1 : gl < wq1.heap.size := block_lt (show wq1.drew.cell? _ = _ from l1); replace l1 := kept hbz ltz_l1 (show wq1.drew.cell? _ = _ from l1); have ltz_l2 : gl < wq1.heap.size := block_lt (show wq1.drew.cell? _ = _ from l2); replace l2 := kept hbz ltz_l2 (show wq1.drew.cell? _ = _ from l2); have ltz_l3 : gl < wq1.heap.size := block_lt (show wq1.drew.cell? _ = _ from l3); replace l3 := kept hbz ltz_l3 (show wq1.drew.cell? _ = _ from l3); have ltz_p : ∀ b off, s = some ⟨b, off, none⟩ → 0 < n → b < wq1.heap.size := row_lt p.out; replace p := Lib.hid (p.out.bel hbz); have ltz_q : ∀ b off, t = some ⟨b, off, none⟩ → 0 < n → b < wq1.heap.size := row_lt q.out; replace q := Lib.hid (q.out.bel hbz); have szb : w.heap.size ≤ wq1.heap.size := bb.out.size; replace bb := Lib.hid (bb.out.trans (hbz.mono bb.out.size)); have zb : Box wz wq1.heap.size (.int .i64 0) (.slice none 0 0) := (by rw [hwz]; exact ⟨by simp, by simp, fun o => by simp⟩); have z0 := zb.c0; have z1 := zb.c1; have zf := zb.fz; have zb := Lib.hid zb; clear hwz hbz) | (obtain ⟨wz, hwz⟩ : ∃ wz, wz = (wq1.drew.alloc (.cells #[.int .i64 0, .slice none 0 0] 25)) := ⟨_, rfl⟩; rw [← hwz]; have hbz : Below wq1.drew.heap.size wq1.drew wz := (by rw [hwz]; exact (Below.refl _ _).alloc (Nat.le_refl _) _); have ltz_p0 : w1.heap.size < wq1.heap.size := block_lt (show wq1.drew.cell? _ = _ from p0); replace p0 := kept hbz ltz_p0 (show wq1.drew.cell? _ = _ from p0); have ltz_p1 : w1.heap.size < wq1.heap.size := block_lt (show wq1.drew.cell? _ = _ from p1); replace p1 := kept hbz ltz_p1 (show wq1.drew.cell? _ = _ from p1); have ltz_q0 : w1.heap.size + 1 < wq1.heap.size := block_lt (show wq1.drew.cell? _ = _ from q0); replace q0 := kept hbz ltz_q0 (show wq1.drew.cell? _ = _ from q0); have ltz_q1 : w1.heap.size + 1 < wq1.heap.size := block_lt (show wq1.drew.cell? _ = _ from q1); replace q1 := kept hbz ltz_q1 (show wq1.drew.cell? _ = _ from q1); have ltz_l0 : gl < wq1.heap.size := block_lt (show wq1.drew.cell? _ = _ from l0); replace l0 := kept hbz ltz_l0 (show wq1.drew.cell? _ = _ from l0); have ltz_l1 : gl < wq1.heap.size := block_lt (show wq1.drew.cell? _ = _ from l1); replace l1 := kept hbz ltz_l1 (show wq1.drew.cell? _ = _ from l1); have ltz_l2 : gl < wq1.heap.size := block_lt (show wq1.drew.cell? _ = _ from l2); replace l2 := kept hbz ltz_l2 (show wq1.drew.cell? _ = _ from l2); have ltz_l3 : gl < wq1.heap.size := block_lt (show wq1.drew.cell? _ = _ from l3); replace l3 := kept hbz ltz_l3 (show wq1.drew.cell? _ = _ from l3); have ltz_p : ∀ b off, s = some ⟨b, off, none⟩ → 0 < n → b < wq1.heap.size := row_lt p.out; replace p := Lib.hid (p.out.bel hbz); have ltz_q : ∀ b off, t = some ⟨b, off, none⟩ → 0 < n → b < wq1.heap.size := row_lt q.out; replace q := Lib.hid (q.out.bel hbz); have szb : w.heap.size ≤ wq1.heap.size := bb.out.size; replace bb := Lib.hid (bb.out.trans (hbz.mono bb.out.size)); have zb : Box wz wq1.heap.size (.int .i64 0) (.slice none 0 0) := (by rw [hwz]; exact ⟨by simp, by simp, fun o => by simp⟩); have z0 := zb.c0; have z1 := zb.c1; have zf := zb.fz; have zb := Lib.hid zb; clear hwz hbz))); (try (have kzB := block_lt z0)); (refine (do_ok hI.out hokP.out hX.out _ _ _ p.out).mono ?_); rintro e w9 ⟨⟨ac, cc, rfl, ho⟩, hb⟩; have szw9 := hb.size; have hoz := Lib.hid ho; (first | replace p0 := kept hb (block_lt p0) p0 | replace p0 := kept hb (block_lt (show wq1.drew.cell? _ = _ from p0)) (show wq1.drew.cell? _ = _ from p0)); (first | replace p1 := kept hb (block_lt p1) p1 | replace p1 := kept hb (block_lt (show wq1.drew.cell? _ = _ from p1)) (show wq1.drew.cell? _ = _ from p1)); (first | replace q0 := kept hb (block_lt q0) q0 | replace q0 := kept hb (block_lt (show wq1.drew.cell? _ = _ from q0)) (show wq1.drew.cell? _ = _ from q0)); (first | replace q1 := kept hb (block_lt q1) q1 | replace q1 := kept hb (block_lt (show wq1.drew.cell? _ = _ from q1)) (show wq1.drew.cell? _ = _ from q1)); (first | replace l0 := kept hb (block_lt l0) l0 | replace l0 := kept hb (block_lt (show wq1.drew.cell? _ = _ from l0)) (show wq1.drew.cell? _ = _ from l0)); (first | replace l1 := kept hb (block_lt l1) l1 | replace l1 := kept hb (block_lt (show wq1.drew.cell? _ = _ from l1)) (show wq1.drew.cell? _ = _ from l1)); (first | replace l2 := kept hb (block_lt l2) l2 | replace l2 := kept hb (block_lt (show wq1.drew.cell? _ = _ from l2)) (show wq1.drew.cell? _ = _ from l2)); (first | replace l3 := kept hb (block_lt l3) l3 | replace l3 := kept hb (block_lt (show wq1.drew.cell? _ = _ from l3)) (show wq1.drew.cell? _ = _ from l3)); replace p := Lib.hid (p.out.bel hb); replace q := Lib.hid (q.out.bel hb); replace bb := Lib.hid (bb.out.trans (hb.mono bb.out.size)); (try (replace zb := Lib.hid (zb.out.bel hb); replace z0 := zb.out.c0; replace z1 := zb.out.c1; replace zf := zb.out.fz)); clear hb ho tok0 _t; have tok1 : True := trivial))
          all_goals
            first | (have c0 := set2_c0 (u0 := .int .i64 W) (u1 := .slice ac n cc) z0; have c1 := set2_c1 (u0 := .int .i64 W) (u1 := .slice ac n cc) z1; replace p0 := set2_cell (u0 := .int .i64 W) (u1 := .slice ac n cc) p0 ltz_p0; replace p1 := set2_cell (u0 := .int .i64 W) (u1 := .slice ac n cc) p1 ltz_p1; replace q0 := set2_cell (u0 := .int .i64 W) (u1 := .slice ac n cc) q0 ltz_q0; replace q1 := set2_cell (u0 := .int .i64 W) (u1 := .slice ac n cc) q1 ltz_q1; replace l0 := set2_cell (u0 := .int .i64 W) (u1 := .slice ac n cc) l0 ltz_l0; replace l1 := set2_cell (u0 := .int .i64 W) (u1 := .slice ac n cc) l1 ltz_l1; replace l2 := set2_cell (u0 := .int .i64 W) (u1 := .slice ac n cc) l2 ltz_l2; replace l3 := set2_cell (u0 := .int .i64 W) (u1 := .slice ac n cc) l3 ltz_l3; replace p := Lib.hid (set2_old (u0 := .int .i64 W) (u1 := .slice ac n cc) p.out ltz_p); replace q := Lib.hid (set2_old (u0 := .int .i64 W) (u1 := .slice ac n cc) q.out ltz_q); have c := Lib.hid (set2_row (u0 := .int .i64 W) (u1 := .slice ac n cc) hoz.out.row (own_far hoz.out kzB)); replace bb := Lib.hid (set2_bel (u0 := .int .i64 W) (u1 := .slice ac n cc) bb.out szb)) | (have c0 : (w9.alloc (.cells #[.int .i64 W, .slice ac n cc] 25)).cell? ⟨w9.heap.size, 0, none⟩ = some (.int .i64 W) := (by simp); have c1 : (w9.alloc (.cells #[.int .i64 W, .slice ac n cc] 25)).cell? ⟨w9.heap.size, 1, none⟩ = some (.slice ac n cc) := (by simp); replace p0 := World.cell?_alloc_some (o := .cells #[.int .i64 W, .slice ac n cc] 25) p0; replace p1 := World.cell?_alloc_some (o := .cells #[.int .i64 W, .slice ac n cc] 25) p1; replace q0 := World.cell?_alloc_some (o := .cells #[.int .i64 W, .slice ac n cc] 25) q0; replace q1 := World.cell?_alloc_some (o := .cells #[.int .i64 W, .slice ac n cc] 25) q1; replace l0 := World.cell?_alloc_some (o := .cells #[.int .i64 W, .slice ac n cc] 25) l0; replace l1 := World.cell?_alloc_some (o := .cells #[.int .i64 W, .slice ac n cc] 25) l1; replace l2 := World.cell?_alloc_some (o := .cells #[.int .i64 W, .slice ac n cc] 25) l2; replace l3 := World.cell?_alloc_some (o := .cells #[.int .i64 W, .slice ac n cc] 25) l3; replace p := Lib.hid (p.out.alloc (.cells #[.int .i64 W, .slice ac n cc] 25)); replace q := Lib.hid (q.out.alloc (.cells #[.int .i64 W, .slice ac n cc] 25)); have c := Lib.hid (hoz.out.row.alloc (.cells #[.int .i64 W, .slice ac n cc] 25)); replace bb := Lib.hid (bb.out.alloc bb.out.size (.cells #[.int .i64 W, .slice ac n cc] 25)))
            go_wp2_with fail
            go_meet
            exact ⟨_, ac, cc, rfl, rfl, p0, p1, q0, q1, l0, l1, l2, l3, c0, c1, p, q, c, bb⟩
        case rest =>
          clear p0 p1 q0 q1 l0 l1 l2 l3 p q bb
          obtain ⟨kc, ac, cc, rfl, rfl, p0, p1, q0, q1, l0, l1, l2, l3, c0, c1, p, q, c, bb⟩ := hcut
          obtain ⟨wq2, hwq⟩ : ∃ W, W = wc := ⟨_, rfl⟩
          subst hwq
          have HP := p
          have HQ := q
          have HC := c
          have g_p0 := fun p : Bw wq2 => bw_cell p0 p
          have g_p1 := fun p : Bw wq2 => bw_cell p1 p
          have g_q0 := fun p : Bw wq2 => bw_cell q0 p
          have g_q1 := fun p : Bw wq2 => bw_cell q1 p
          have g_l0 := fun p : Bw wq2 => bw_cell l0 p
          have g_l1 := fun p : Bw wq2 => bw_cell l1 p
          have g_l2 := fun p : Bw wq2 => bw_cell l2 p
          have g_l3 := fun p : Bw wq2 => bw_cell l3 p
          have g_c0 := fun p : Bw wq2 => bw_cell c0 p
          have g_c1 := fun p : Bw wq2 => bw_cell c1 p
          have cc0 : ∀ p : Bw wq2, Calls Try.prog 23 #[.agg #[.int .i64 W, .slice ac n cc], .agg #[.int .i64 W, .slice t n ch]] p.v (fun e w' => e = .returned (.int .i64 f1) ∧ ∃ q : Bw wq2, w' = q.v) := fun p => bw_of (far_ok hIm.out hJ.out h1.out _ _ _ _ p.v (HC.out.bel p.h) (HQ.out.bel p.h))
          replace cc0 := Lib.hid cc0
          have cc1 : ∀ p : Bw wq2, Calls Try.prog 23 #[.agg #[.int .i64 W, .slice s n cg], .agg #[.int .i64 W, .slice t n ch]] p.v (fun e w' => e = .returned (.int .i64 f0) ∧ ∃ q : Bw wq2, w' = q.v) := fun p => bw_of (far_ok hI.out hJ.out h0.out _ _ _ _ p.v (HP.out.bel p.h) (HQ.out.bel p.h))
          replace cc1 := Lib.hid cc1
          go_wp2_with fail
          refine wp_region_bw (by kernel_rfl) (by kernel_rfl) ?_
          repeat (go_big_quiet_step (first | (with_reducible exact cc0.out _) | (with_reducible exact cc1.out _)))
          refine wpQuiet_nil ?_
          intro _ hw'
          obtain ⟨pq, rfl⟩ := hw'
          have hb := pq.h
          clear g_p0 g_p1 g_q0 g_q1 g_l0 g_l1 g_l2 g_l3 g_c0 g_c1 cc0 cc1
          generalize pq.v = w10 at hb ⊢
          clear pq
          have szw10 := hb.size
          replace p0 := kept hb (block_lt p0) p0
          replace p1 := kept hb (block_lt p1) p1
          replace q0 := kept hb (block_lt q0) q0
          replace q1 := kept hb (block_lt q1) q1
          replace l0 := kept hb (block_lt l0) l0
          replace l1 := kept hb (block_lt l1) l1
          replace l2 := kept hb (block_lt l2) l2
          replace l3 := kept hb (block_lt l3) l3
          replace c0 := kept hb (block_lt c0) c0
          replace c1 := kept hb (block_lt c1) c1
          replace p := Lib.hid (p.out.bel hb)
          replace q := Lib.hid (q.out.bel hb)
          replace c := Lib.hid (c.out.bel hb)
          replace bb := Lib.hid (bb.out.trans (hb.mono bb.out.size))
          clear hb
          go_wp2_with fail
          subst hww
          exact ⟨⟨k + 1, by omega, by go_num, bb⟩, by simp [intOf]; omega⟩

set_option maxRecDepth 100000 in
theorem lifted (os : Os) (started : os.Started) (H : Type) (enc : TypeId × Value → H) :
    ReturnsInHanded {} Try.checked os 7 .any (Rows.fnTowardFirstSpec.pre6 enc Try.prog Try.f7 Rows.fnTowardFirstRow.domain false) (Rows.fnTowardFirstSpec.post enc Try.prog Try.f7 false true false false) := by
  refine returnsInHanded_of_change (C := Try.checked) own started (by kernel_rfl) Try.func7
    (ChangeSpec.witness6 (enc := enc) (C := Try.checked) false ⟨#[], #[.slice none 0 0], []⟩ 8 (by kernel_rfl) (by kernel_rfl) (by kernel_rfl) (by kernel_rfl)) ?_
  intro W base args ds gs before hval0 hW hcnd _
  have hval : ∀ (j : Nat) t v, Try.f7.params[j]? = some t → args[j]? = some v → Value.okWide Try.prog W .any base t v := hval0
  have hW' := hW
  obtain ⟨p, q, hA0, hV, rfl, hfz, hnd⟩ := hW
  have hA : DataW.TrodAll enc Try.prog W 0 (fun _ => true) true Try.f7.params.toList args.toList ds p := hA0
  rw [Try.params7] at hA hval
  obtain ⟨v0, vs0, d0, ds0, p0, q0, hargs, rfl, rfl, h0, r0⟩ := trodAll_cons hA
  obtain ⟨rfl, rfl, rfl⟩ := trodAll_nil r0
  obtain rfl : args = #[v0] := by cases args; simp_all
  obtain ⟨rfl, rfl⟩ := trodVars_none hV
  have k0 := h0
  have lt0 : ∀ x ∈ p0, x.block < W.heap.size := by obtain ⟨m, hm⟩ := k0; exact DataW.trod_lt m _ _ _ hm
  obtain ⟨a0, len0, cap0, z0, rfl, w0, l0, m0⟩ := open_code (hval 0 22 v0 rfl rfl) h0
  clear hA0 hval0
  refine (walk a0 len0 cap0 z0 W w0 l0 m0).mono fun e W' ⟨he, bel⟩ => ?_
  subst he
  exact ⟨_, rfl, _, _, _, [], _, [], hW', trodAll_mk1 (shut_bool Try.underlying4 _), (trodAll_cons_mk (Below.trod laidOut (by kernel_rfl) (of_decide_eq_true (by kernel_rfl)) k0 bel lt0) trodAll_mk0), rfl, bel.frame _, fun h => by cases h⟩

theorem closed : joinedFacts Try.prog 7 Try.f7 Rows.fnTowardFirstSpec Rows.fnTowardFirstRow = true := by
  simp only [joinedFacts, Bool.and_eq_true]
  repeat' apply And.intro
  all_goals first | with_reducible exact mayEnterOk | (with_reducible rw [liftsFinalOk]; kernel_rfl) | (with_reducible rw [makeOk]; kernel_rfl) | kernel_rfl

theorem over : Rows.fnTowardFirstRow.holds Try.pinned (OpenSpec.ofChange Rows.fnTowardFirstSpec) :=
  OpenClaim.holds_of_wide 7 Try.f7 rfl rfl rfl rfl rfl rfl rfl ⟨rfl, rfl, rfl, rfl, rfl⟩ rfl rfl rfl rfl rfl (by kernel_rfl) Try.func7 closed
    (of_decide_eq_true (by kernel_rfl)) (by unfold Func.isWrapper; first | (rw [if_pos (by decide +kernel)]; kernel_rfl) | (rw [if_neg (by decide +kernel)]; exact ⟨rfl, rfl⟩))
    (fun os started H enc _ => lifted os started H enc)

theorem proved : Rows.FnTowardFirstSaid := over
#print axioms proved
end Go.Proofs.Ytgamkmkpmcenpaa.LFTowardFirst

