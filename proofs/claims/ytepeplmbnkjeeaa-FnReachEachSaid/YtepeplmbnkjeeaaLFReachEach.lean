/-
  For any two slices of bytes the law FnReachEach answers true: rows that reach each other reach the same; nothing that was there is written; no condition.
-/
import Derived.Test.YtepeplmbnkjeeaaO
import Derived.Test.YtepeplmbnkjeeaaK
import Derived.Deep.RegionLaw
import Derived.Test.YtepeplmbnkjeeaaMm
namespace Go.Proofs.Ytepeplmbnkjeeaa.LFReachEach
open Go.ChangeShapes Go.WideShapes Go.ChangeAt Go.RowKit Go.Joins

set_option maxHeartbeats 8000000 in
set_option maxRecDepth 100000 in
theorem walk (a : Option Addr) (len cap : Nat) (zs : List Int) (a2 : Option Addr) (len2 cap2 : Nat) (zs2 : List Int) (w : World) (h : Bys w a len zs) (hl : len ≤ cap) (hm : cap ≤ 9223372036854775807) (_ : Bys w a2 len2 zs2) (_ : len2 ≤ cap2) (_ : cap2 ≤ 9223372036854775807) :
    Calls Try.prog 15 #[.slice a len cap, .slice a2 len2 cap2] w fun e w' => e = .returned (.bool true) ∧ Below w.heap.size w w' := by
  by_cases hbig : 1048576 < len
  · clear h
    go_enter Try.func15, Try.ntmps15
    go_wp2_with fail
    go_ret
    exact ⟨rfl, Below.refl _ _⟩
  by_cases hbig2 : 1048576 < len2
  · clear h
    go_enter Try.func15, Try.ntmps15
    go_wp2_with fail
    go_ret
    exact ⟨rfl, Below.refl _ _⟩
  go_enter Try.func15, Try.ntmps15
  go_wp2_with fail
  refine (draw_DrawCellReach a len cap zs _ h hl hm).mono ?_
  rintro e w1 ⟨V, s, n, cg, xs, i, rfl, hR, hn, hb1⟩
  clear h hl hm
  have bb := Lib.hid hb1
  have p := Lib.hid hR
  clear hR hb1
  have hbx : Below w1.heap.size w1 (w1.alloc (.cells #[.int .i64 V, .slice s n cg] 25)) := (Below.refl _ _).alloc (Nat.le_refl _) _
  replace p := Lib.hid (p.out.bel hbx)
  replace bb := Lib.hid (bb.out.trans (hbx.mono bb.out.size))
  clear hbx
  have p0 : (w1.alloc (.cells #[.int .i64 V, .slice s n cg] 25)).cell? ⟨w1.heap.size, 0, none⟩ = some (.int .i64 V) := by simp
  have p1 : (w1.alloc (.cells #[.int .i64 V, .slice s n cg] 25)).cell? ⟨w1.heap.size, 1, none⟩ = some (.slice s n cg) := by simp
  rcases reach_ways V p.out.1 i with h0 | ⟨W, i, rfl, rfl, hI, hi⟩
  case inl =>
    go_wp2_with fail
    refine (reach_no h0 (by omega) _ _ _ p.out).mono ?_
    rintro e w2 ⟨⟨ax, cx, rfl, ho⟩, hb⟩
    have x := Lib.hid ho
    have szw2 : w1.heap.size + 1 ≤ w2.heap.size := by have := hb.size; simpa using this
    replace p0 := kept hb (block_lt p0) p0
    replace p1 := kept hb (block_lt p1) p1
    replace p := Lib.hid (p.out.bel hb)
    replace bb := Lib.hid (bb.out.trans (hb.mono bb.out.size))
    clear hb
    clear ho
    go_wp2_with fail
    refine (reach_sno h0 (by omega) _ _ _ p.out).mono ?_
    rintro e w3 ⟨⟨axw, cxw, rfl, ho⟩, hb⟩
    have xw := Lib.hid ho
    have szw3 := hb.size
    replace p0 := kept hb (block_lt p0) p0
    replace p1 := kept hb (block_lt p1) p1
    replace p := Lib.hid (p.out.bel hb)
    replace x := Lib.hid (x.out.bel hb)
    replace bb := Lib.hid (bb.out.trans (hb.mono bb.out.size))
    clear hb
    clear ho
    go_wp2_with fail
    refine (sameF_yes _ _ 0 _ _ _ _ x.out xw.out (by omega)).mono ?_
    rintro e w4 ⟨rfl, hb⟩
    have szw4 := hb.size
    replace p0 := kept hb (block_lt p0) p0
    replace p1 := kept hb (block_lt p1) p1
    replace p := Lib.hid (p.out.bel hb)
    replace x := Lib.hid (x.out.bel hb)
    replace xw := Lib.hid (xw.out.bel hb)
    replace bb := Lib.hid (bb.out.trans (hb.mono bb.out.size))
    clear hb
    go_wp2_with fail
    refine (sameF_yes _ _ 0 _ _ _ _ x.out xw.out (by omega)).mono ?_
    rintro e w5 ⟨rfl, hb⟩
    have szw5 := hb.size
    replace p0 := kept hb (block_lt p0) p0
    replace p1 := kept hb (block_lt p1) p1
    replace p := Lib.hid (p.out.bel hb)
    replace x := Lib.hid (x.out.bel hb)
    replace xw := Lib.hid (xw.out.bel hb)
    replace bb := Lib.hid (bb.out.trans (hb.mono bb.out.size))
    clear hb
    go_wp2_with fail
    go_ret
    exact ⟨rfl, bb.out⟩
  have hW6 := hI.w6
  have hW1 := hI.w1
  have hn1 := hI.l1
  have hn6 := hI.l6
  obtain ⟨M, hM⟩ : ∃ M, n + W = M := ⟨_, rfl⟩
  obtain ⟨u, hu⟩ : ∃ u, rchB xs W n i = u := ⟨_, rfl⟩
  have hiM : i < M := by omega
  have hnM : n ≤ M := by omega
  have hM12 : 2 ≤ M ∧ M ≤ 12 := by omega
  have hM0 : ((M : Int) == 0) = false := by rw [beq_eq_false_iff_ne]; omega
  have eM : (n : Int) + (W : Int) = (M : Int) := by omega
  have ewM : IntKind.i64.wrap (M : Int) = (M : Int) := IntWalk.i64_in _ ⟨by omega, by omega⟩
  replace hM := Lib.hid hM
  replace hu := Lib.hid hu
  replace hI := Lib.hid hI
  go_wp2_with fail
  refine (reach_ok hI.out hi hM.out hu.out _ _ _ p.out).mono ?_
  rintro e w6 ⟨⟨ax, cx, rfl, ho⟩, hb⟩
  have x := Lib.hid ho
  have szw6 : w1.heap.size + 1 ≤ w6.heap.size := by have := hb.size; simpa using this
  replace p0 := kept hb (block_lt p0) p0
  replace p1 := kept hb (block_lt p1) p1
  replace p := Lib.hid (p.out.bel hb)
  replace bb := Lib.hid (bb.out.trans (hb.mono bb.out.size))
  clear hb
  clear ho
  go_wp2_with fail
  refine (reach_sok hI.out hi hM.out hu.out _ _ _ p.out).mono ?_
  rintro e w7 ⟨⟨axw, cxw, rfl, ho⟩, hb⟩
  have xw := Lib.hid ho
  have szw7 := hb.size
  replace p0 := kept hb (block_lt p0) p0
  replace p1 := kept hb (block_lt p1) p1
  replace p := Lib.hid (p.out.bel hb)
  replace x := Lib.hid (x.out.bel hb)
  replace bb := Lib.hid (bb.out.trans (hb.mono bb.out.size))
  clear hb
  clear ho
  go_wp2_with fail
  refine (sameF_yes _ _ M _ _ _ _ x.out xw.out (by omega)).mono ?_
  rintro e w8 ⟨rfl, hb⟩
  have szw8 := hb.size
  replace p0 := kept hb (block_lt p0) p0
  replace p1 := kept hb (block_lt p1) p1
  replace p := Lib.hid (p.out.bel hb)
  replace x := Lib.hid (x.out.bel hb)
  replace xw := Lib.hid (xw.out.bel hb)
  replace bb := Lib.hid (bb.out.trans (hb.mono bb.out.size))
  clear hb
  clear xw
  obtain ⟨k, hk0⟩ : ∃ k : Nat, len2 % n = k := ⟨_, rfl⟩
  have hkn : k < n := by rw [← hk0]; exact Nat.mod_lt _ (by omega)
  have hk1 : (len2 : Int) % (n : Int) = (k : Int) := by rw [← hk0]; exact (Int.natCast_emod _ _).symm
  have hk2 : (len2 : Int).tmod (n : Int) = (k : Int) := by rw [Int.tmod_eq_emod_of_nonneg (by omega)]; exact hk1
  have hwk : IntKind.i64.wrap (k : Int) = (k : Int) := IntWalk.i64_in _ ⟨by omega, by omega⟩
  have hn0 : ((n : Int) == 0) = false := by rw [beq_eq_false_iff_ne]; omega
  have hn00 : ¬ n = 0 := by omega
  obtain ⟨u2, hu2⟩ : ∃ u2, rchB xs W n k = u2 := ⟨_, rfl⟩
  have htr := Lib.hid (fun (m : Nat) (hm : m < n + W) (h1 : u k = true) (h2 : u2 m = true) => hu.out ▸ rch_trans (i := i) (k := k) (q := m) (by omega) (by omega) hm (by rw [hu.out]; exact h1) (by rw [hu2]; exact h2))
  have htr2 := Lib.hid (fun (m : Nat) (hm : m < n + W) (h1 : u2 i = true) (h2 : u m = true) => hu2 ▸ rch_trans (i := k) (k := i) (q := m) (by omega) (by omega) hm (by rw [hu2]; exact h1) (by rw [hu.out]; exact h2))
  have hkM : k < M := by omega
  replace hk0 := Lib.hid hk0
  replace hk1 := Lib.hid hk1
  replace hk2 := Lib.hid hk2
  replace hu2 := Lib.hid hu2
  rw [hM.out] at htr htr2
  go_wp2_with fail
  (try rw [hk2.out])
  (try rw [hk1.out])
  refine (reach_ok hI.out hkn hM.out hu2.out _ _ _ p.out).mono ?_
  rintro e w9 ⟨⟨av, cv, rfl, ho⟩, hb⟩
  have v := Lib.hid ho
  have szw9 := hb.size
  replace p0 := kept hb (block_lt p0) p0
  replace p1 := kept hb (block_lt p1) p1
  replace p := Lib.hid (p.out.bel hb)
  replace x := Lib.hid (x.out.bel hb)
  replace bb := Lib.hid (bb.out.trans (hb.mono bb.out.size))
  clear hb
  clear ho
  go_wp2_with fail
  go_loopw [11] (fun t wr => ∃ m : Nat, m ≤ M ∧ t = .int .i64 m ∧ wr.cell? ⟨w1.heap.size, 0, none⟩ = some (.int .i64 W) ∧ wr.cell? ⟨w1.heap.size, 1, none⟩ = some (.slice s n cg) ∧ Hid (Row wr s n xs) ∧ Hid (RowG wr ax M u) ∧ Hid (RowG wr av M u2) ∧ Hid (Below w.heap.size w wr)) (fun i _ => M - (intOf i).toNat)
  case atStart => exact ⟨0, Nat.zero_le _, rfl, p0, p1, p, x, v, bb⟩
  case round =>
    clear p0 p1 p x v bb
    obtain ⟨m, hm, rfl, p0, p1, p, x, v, bb⟩ := hrel
    obtain ⟨w10, rfl⟩ : ∃ w10 : World, w10 = wr := ⟨_, rfl⟩
    by_cases hlt : m < M
    case pos =>
      have ht := htr.out m hlt
      have ht2 := htr2.out m hlt
      obtain ⟨bx, ox, ea, c1⟩ := x.out.at hkM
      obtain ⟨bx2, ox2, ea2, c2⟩ := x.out.at hlt
      rw [ea] at ea2
      cases ea2
      obtain ⟨bv, ov, eb, c3⟩ := v.out.at hlt
      obtain ⟨bv2, ov2, eb2, c4⟩ := v.out.at hiM
      rw [eb] at eb2
      cases eb2
      obtain ⟨a1, h1⟩ : ∃ b, u k = b := ⟨_, rfl⟩
      obtain ⟨a3, h3⟩ : ∃ b, u m = b := ⟨_, rfl⟩
      obtain ⟨a2, h2⟩ : ∃ b, u2 m = b := ⟨_, rfl⟩
      obtain ⟨a4, h4⟩ : ∃ b, u2 i = b := ⟨_, rfl⟩
      rw [h1] at c1 ht
      rw [h3] at c2 ht ht2
      rw [h2] at c3 ht ht2
      rw [h4] at c4 ht2
      subst ea
      subst eb
      replace h1 := Lib.hid h1
      replace h2 := Lib.hid h2
      replace h3 := Lib.hid h3
      replace h4 := Lib.hid h4
      cases a1 <;> cases a2 <;> cases a3 <;> cases a4
      · clear ht ht2
        go_wp2_with fail
        go_quiet (fail)
        have hdr : Below w10.heap.size w10 (w10.drewN nq) := below_drewN (Below.refl _ _) nq
        clear c1 c2 c3 c4
        replace p0 := kept hdr (block_lt p0) p0
        replace p1 := kept hdr (block_lt p1) p1
        replace p := Lib.hid (p.out.bel hdr)
        replace x := Lib.hid (x.out.bel hdr)
        replace v := Lib.hid (v.out.bel hdr)
        replace bb := Lib.hid (bb.out.trans (hdr.mono bb.out.size))
        clear hdr
        generalize hwq : w10.drewN nq = w11 at *
        clear hwq
        go_wp2_with fail
        exact ⟨⟨m + 1, by omega, by go_num, p0, p1, p, x, v, bb⟩, by simp [intOf]; omega⟩
      · clear ht ht2
        go_wp2_with fail
        go_quiet (fail)
        have hdr : Below w10.heap.size w10 (w10.drewN nq) := below_drewN (Below.refl _ _) nq
        clear c1 c2 c3 c4
        replace p0 := kept hdr (block_lt p0) p0
        replace p1 := kept hdr (block_lt p1) p1
        replace p := Lib.hid (p.out.bel hdr)
        replace x := Lib.hid (x.out.bel hdr)
        replace v := Lib.hid (v.out.bel hdr)
        replace bb := Lib.hid (bb.out.trans (hdr.mono bb.out.size))
        clear hdr
        generalize hwq : w10.drewN nq = w11 at *
        clear hwq
        go_wp2_with fail
        exact ⟨⟨m + 1, by omega, by go_num, p0, p1, p, x, v, bb⟩, by simp [intOf]; omega⟩
      · clear ht ht2
        go_wp2_with fail
        go_quiet (fail)
        have hdr : Below w10.heap.size w10 (w10.drewN nq) := below_drewN (Below.refl _ _) nq
        clear c1 c2 c3 c4
        replace p0 := kept hdr (block_lt p0) p0
        replace p1 := kept hdr (block_lt p1) p1
        replace p := Lib.hid (p.out.bel hdr)
        replace x := Lib.hid (x.out.bel hdr)
        replace v := Lib.hid (v.out.bel hdr)
        replace bb := Lib.hid (bb.out.trans (hdr.mono bb.out.size))
        clear hdr
        generalize hwq : w10.drewN nq = w11 at *
        clear hwq
        go_wp2_with fail
        exact ⟨⟨m + 1, by omega, by go_num, p0, p1, p, x, v, bb⟩, by simp [intOf]; omega⟩
      · exact absurd (ht2 rfl rfl) (by simp)
      · clear ht ht2
        go_wp2_with fail
        go_quiet (fail)
        have hdr : Below w10.heap.size w10 (w10.drewN nq) := below_drewN (Below.refl _ _) nq
        clear c1 c2 c3 c4
        replace p0 := kept hdr (block_lt p0) p0
        replace p1 := kept hdr (block_lt p1) p1
        replace p := Lib.hid (p.out.bel hdr)
        replace x := Lib.hid (x.out.bel hdr)
        replace v := Lib.hid (v.out.bel hdr)
        replace bb := Lib.hid (bb.out.trans (hdr.mono bb.out.size))
        clear hdr
        generalize hwq : w10.drewN nq = w11 at *
        clear hwq
        go_wp2_with fail
        exact ⟨⟨m + 1, by omega, by go_num, p0, p1, p, x, v, bb⟩, by simp [intOf]; omega⟩
      · clear ht ht2
        go_wp2_with fail
        go_quiet (fail)
        have hdr : Below w10.heap.size w10 (w10.drewN nq) := below_drewN (Below.refl _ _) nq
        clear c1 c2 c3 c4
        replace p0 := kept hdr (block_lt p0) p0
        replace p1 := kept hdr (block_lt p1) p1
        replace p := Lib.hid (p.out.bel hdr)
        replace x := Lib.hid (x.out.bel hdr)
        replace v := Lib.hid (v.out.bel hdr)
        replace bb := Lib.hid (bb.out.trans (hdr.mono bb.out.size))
        clear hdr
        generalize hwq : w10.drewN nq = w11 at *
        clear hwq
        go_wp2_with fail
        exact ⟨⟨m + 1, by omega, by go_num, p0, p1, p, x, v, bb⟩, by simp [intOf]; omega⟩
      · clear ht ht2
        go_wp2_with fail
        go_quiet (fail)
        have hdr : Below w10.heap.size w10 (w10.drewN nq) := below_drewN (Below.refl _ _) nq
        clear c1 c2 c3 c4
        replace p0 := kept hdr (block_lt p0) p0
        replace p1 := kept hdr (block_lt p1) p1
        replace p := Lib.hid (p.out.bel hdr)
        replace x := Lib.hid (x.out.bel hdr)
        replace v := Lib.hid (v.out.bel hdr)
        replace bb := Lib.hid (bb.out.trans (hdr.mono bb.out.size))
        clear hdr
        generalize hwq : w10.drewN nq = w11 at *
        clear hwq
        go_wp2_with fail
        exact ⟨⟨m + 1, by omega, by go_num, p0, p1, p, x, v, bb⟩, by simp [intOf]; omega⟩
      · clear ht ht2
        go_wp2_with fail
        go_quiet (fail)
        have hdr : Below w10.heap.size w10 (w10.drewN nq) := below_drewN (Below.refl _ _) nq
        clear c1 c2 c3 c4
        replace p0 := kept hdr (block_lt p0) p0
        replace p1 := kept hdr (block_lt p1) p1
        replace p := Lib.hid (p.out.bel hdr)
        replace x := Lib.hid (x.out.bel hdr)
        replace v := Lib.hid (v.out.bel hdr)
        replace bb := Lib.hid (bb.out.trans (hdr.mono bb.out.size))
        clear hdr
        generalize hwq : w10.drewN nq = w11 at *
        clear hwq
        go_wp2_with fail
        exact ⟨⟨m + 1, by omega, by go_num, p0, p1, p, x, v, bb⟩, by simp [intOf]; omega⟩
      · clear ht ht2
        go_wp2_with fail
        go_quiet (fail)
        have hdr : Below w10.heap.size w10 (w10.drewN nq) := below_drewN (Below.refl _ _) nq
        clear c1 c2 c3 c4
        replace p0 := kept hdr (block_lt p0) p0
        replace p1 := kept hdr (block_lt p1) p1
        replace p := Lib.hid (p.out.bel hdr)
        replace x := Lib.hid (x.out.bel hdr)
        replace v := Lib.hid (v.out.bel hdr)
        replace bb := Lib.hid (bb.out.trans (hdr.mono bb.out.size))
        clear hdr
        generalize hwq : w10.drewN nq = w11 at *
        clear hwq
        go_wp2_with fail
        exact ⟨⟨m + 1, by omega, by go_num, p0, p1, p, x, v, bb⟩, by simp [intOf]; omega⟩
      · clear ht ht2
        go_wp2_with fail
        go_quiet (fail)
        have hdr : Below w10.heap.size w10 (w10.drewN nq) := below_drewN (Below.refl _ _) nq
        clear c1 c2 c3 c4
        replace p0 := kept hdr (block_lt p0) p0
        replace p1 := kept hdr (block_lt p1) p1
        replace p := Lib.hid (p.out.bel hdr)
        replace x := Lib.hid (x.out.bel hdr)
        replace v := Lib.hid (v.out.bel hdr)
        replace bb := Lib.hid (bb.out.trans (hdr.mono bb.out.size))
        clear hdr
        generalize hwq : w10.drewN nq = w11 at *
        clear hwq
        go_wp2_with fail
        exact ⟨⟨m + 1, by omega, by go_num, p0, p1, p, x, v, bb⟩, by simp [intOf]; omega⟩
      · clear ht ht2
        go_wp2_with fail
        go_quiet (fail)
        have hdr : Below w10.heap.size w10 (w10.drewN nq) := below_drewN (Below.refl _ _) nq
        clear c1 c2 c3 c4
        replace p0 := kept hdr (block_lt p0) p0
        replace p1 := kept hdr (block_lt p1) p1
        replace p := Lib.hid (p.out.bel hdr)
        replace x := Lib.hid (x.out.bel hdr)
        replace v := Lib.hid (v.out.bel hdr)
        replace bb := Lib.hid (bb.out.trans (hdr.mono bb.out.size))
        clear hdr
        generalize hwq : w10.drewN nq = w11 at *
        clear hwq
        go_wp2_with fail
        exact ⟨⟨m + 1, by omega, by go_num, p0, p1, p, x, v, bb⟩, by simp [intOf]; omega⟩
      · exact absurd (ht2 rfl rfl) (by simp)
      · exact absurd (ht rfl rfl) (by simp)
      · exact absurd (ht rfl rfl) (by simp)
      · clear ht ht2
        go_wp2_with fail
        go_quiet (fail)
        have hdr : Below w10.heap.size w10 (w10.drewN nq) := below_drewN (Below.refl _ _) nq
        clear c1 c2 c3 c4
        replace p0 := kept hdr (block_lt p0) p0
        replace p1 := kept hdr (block_lt p1) p1
        replace p := Lib.hid (p.out.bel hdr)
        replace x := Lib.hid (x.out.bel hdr)
        replace v := Lib.hid (v.out.bel hdr)
        replace bb := Lib.hid (bb.out.trans (hdr.mono bb.out.size))
        clear hdr
        generalize hwq : w10.drewN nq = w11 at *
        clear hwq
        go_wp2_with fail
        exact ⟨⟨m + 1, by omega, by go_num, p0, p1, p, x, v, bb⟩, by simp [intOf]; omega⟩
      · clear ht ht2
        go_wp2_with fail
        go_quiet (fail)
        have hdr : Below w10.heap.size w10 (w10.drewN nq) := below_drewN (Below.refl _ _) nq
        clear c1 c2 c3 c4
        replace p0 := kept hdr (block_lt p0) p0
        replace p1 := kept hdr (block_lt p1) p1
        replace p := Lib.hid (p.out.bel hdr)
        replace x := Lib.hid (x.out.bel hdr)
        replace v := Lib.hid (v.out.bel hdr)
        replace bb := Lib.hid (bb.out.trans (hdr.mono bb.out.size))
        clear hdr
        generalize hwq : w10.drewN nq = w11 at *
        clear hwq
        go_wp2_with fail
        exact ⟨⟨m + 1, by omega, by go_num, p0, p1, p, x, v, bb⟩, by simp [intOf]; omega⟩
    obtain rfl : M = m := by omega
    go_wp2_with fail
    go_ret
    exact ⟨rfl, bb.out⟩

set_option maxRecDepth 100000 in
theorem lifted (os : Os) (started : os.Started) (H : Type) (enc : TypeId × Value → H) :
    ReturnsInHanded {} Try.checked os 15 .any (Rows.fnReachEachSpec.pre6 enc Try.prog Try.f15 Rows.fnReachEachRow.domain false) (Rows.fnReachEachSpec.post enc Try.prog Try.f15 false true false false) := by
  refine returnsInHanded_of_change (C := Try.checked) own started (by kernel_rfl) Try.func15
    (ChangeSpec.witness6 (enc := enc) (C := Try.checked) false ⟨#[], #[.slice none 0 0, .slice none 0 0], []⟩ 8 (by kernel_rfl) (by kernel_rfl) (by kernel_rfl) (by kernel_rfl)) ?_
  intro W base args ds gs before hval0 hW hcnd _
  have hval : ∀ (j : Nat) t v, Try.f15.params[j]? = some t → args[j]? = some v → Value.okWide Try.prog W .any base t v := hval0
  have hW' := hW
  obtain ⟨p, q, hA0, hV, rfl, hfz, hnd⟩ := hW
  have hA : DataW.TrodAll enc Try.prog W 0 (fun _ => true) true Try.f15.params.toList args.toList ds p := hA0
  rw [Try.params15] at hA hval
  obtain ⟨v0, vs0, d0, ds0, p0, q0, hargs, rfl, rfl, h0, r0⟩ := trodAll_cons hA
  obtain ⟨v1, vs1, d1, ds1, p1, q1, rfl, rfl, rfl, h1, r1⟩ := trodAll_cons r0
  obtain ⟨rfl, rfl, rfl⟩ := trodAll_nil r1
  obtain rfl : args = #[v0, v1] := by cases args; simp_all
  obtain ⟨rfl, rfl⟩ := trodVars_none hV
  have k0 := h0
  have lt0 : ∀ x ∈ p0, x.block < W.heap.size := by obtain ⟨m, hm⟩ := k0; exact DataW.trod_lt m _ _ _ hm
  obtain ⟨a0, len0, cap0, z0, rfl, w0, l0, m0⟩ := open_code (hval 0 22 v0 rfl rfl) h0
  have k1 := h1
  have lt1 : ∀ x ∈ p1, x.block < W.heap.size := by obtain ⟨m, hm⟩ := k1; exact DataW.trod_lt m _ _ _ hm
  obtain ⟨a1, len1, cap1, z1, rfl, w1, l1, m1⟩ := open_code (hval 1 22 v1 rfl rfl) h1
  clear hA0 hval0
  refine (walk a0 len0 cap0 z0 a1 len1 cap1 z1 W w0 l0 m0 w1 l1 m1).mono fun e W' ⟨he, bel⟩ => ?_
  subst he
  exact ⟨_, rfl, _, _, _, [], _, [], hW', trodAll_mk1 (shut_bool Try.underlying4 _), (trodAll_cons_mk (Below.trod laidOut (by kernel_rfl) (of_decide_eq_true (by kernel_rfl)) k0 bel lt0) (trodAll_cons_mk (Below.trod laidOut (by kernel_rfl) (of_decide_eq_true (by kernel_rfl)) k1 bel lt1) trodAll_mk0)), rfl, bel.frame _, fun h => by cases h⟩

theorem closed : joinedFacts Try.prog 15 Try.f15 Rows.fnReachEachSpec Rows.fnReachEachRow = true := by
  simp only [joinedFacts, Bool.and_eq_true]
  repeat' apply And.intro
  all_goals first | with_reducible exact mayEnterOk | (with_reducible rw [liftsFinalOk]; kernel_rfl) | (with_reducible rw [makeOk]; kernel_rfl) | kernel_rfl

theorem over : Rows.fnReachEachRow.holds Try.pinned (OpenSpec.ofChange Rows.fnReachEachSpec) :=
  OpenClaim.holds_of_wide 15 Try.f15 rfl rfl rfl rfl rfl rfl rfl ⟨rfl, rfl, rfl, rfl, rfl⟩ rfl rfl rfl rfl rfl (by kernel_rfl) Try.func15 closed
    (of_decide_eq_true (by kernel_rfl)) (by unfold Func.isWrapper; first | (rw [if_pos (by decide +kernel)]; kernel_rfl) | (rw [if_neg (by decide +kernel)]; exact ⟨rfl, rfl⟩))
    (fun os started H enc _ => lifted os started H enc)

theorem proved : Rows.FnReachEachSaid := over
#print axioms proved
end Go.Proofs.Ytepeplmbnkjeeaa.LFReachEach

