/-
  For every slice of bytes the law FnSwitchSums answers true: a switch keeps all sums and changes four cells; nothing that was there is written; no condition.
-/
import Derived.Test.YtnibmcihklaigaaO
import Derived.Test.YtnibmcihklaigaaK
import Derived.Deep.RegionLaw
import Derived.Test.YtnibmcihklaigaaKi
namespace Go.Proofs.Ytnibmcihklaigaa.LFSwitchSums
open Go.ChangeShapes Go.WideShapes Go.ChangeAt Go.RowKit Go.Joins

set_option maxHeartbeats 4000000 in
set_option maxRecDepth 100000 in
theorem walk (a : Option Addr) (len cap : Nat) (zs : List Int) (w : World) (h : Bys w a len zs) (hl : len ≤ cap) (hm : cap ≤ 9223372036854775807) :
    Calls Try.prog 3 #[.slice a len cap] w fun e w' => e = .returned (.bool true) ∧ Below w.heap.size w w' := by
  by_cases hbig : 1048576 < len
  · clear h
    go_enter Try.func3, Try.ntmps3
    go_wp2_with fail
    go_ret
    exact ⟨rfl, Below.refl _ _⟩
  go_enter Try.func3, Try.ntmps3
  go_wp2_with fail
  refine (draw_DrawSwitchDo a len cap zs _ h hl hm).mono ?_
  rintro e w1 ⟨W, s, n, cg, xs, A, B, C, D, rfl, hR, hn, hsm, _, hb1⟩
  clear h hl hm
  have bb := Lib.hid hb1
  have p := Lib.hid hR
  obtain ⟨w2, hw2⟩ : ∃ w2, w2 = (w1.alloc (.cells #[.int .i64 W, .slice s n cg] 25)).alloc (.cells #[.int .i64 A, .int .i64 B, .int .i64 C, .int .i64 D] 27) := ⟨_, rfl⟩
  have hb : Below w1.heap.size w1 w2 := by subst hw2; exact ((Below.refl _ _).alloc (Nat.le_refl _) _).alloc (by simp) _
  have p0 : w2.cell? ⟨w1.heap.size, 0, none⟩ = some (.int .i64 W) := by subst hw2; go_simp
  have p1 : w2.cell? ⟨w1.heap.size, 1, none⟩ = some (.slice s n cg) := by subst hw2; go_simp
  have s0 : w2.cell? ⟨w1.heap.size + 1, 0, none⟩ = some (.int .i64 A) := by subst hw2; go_simp
  have s1 : w2.cell? ⟨w1.heap.size + 1, 1, none⟩ = some (.int .i64 B) := by subst hw2; go_simp
  have s2 : w2.cell? ⟨w1.heap.size + 1, 2, none⟩ = some (.int .i64 C) := by subst hw2; go_simp
  have s3 : w2.cell? ⟨w1.heap.size + 1, 3, none⟩ = some (.int .i64 D) := by subst hw2; go_simp
  clear hR hb1
  have szw2 := hb.size
  replace p := Lib.hid (p.out.bel hb)
  replace bb := Lib.hid (bb.out.trans (hb.mono bb.out.size))
  clear hb
  go_wp2_with fail
  rw [← hw2]
  clear hw2
  obtain ⟨K, hK⟩ : ∃ K, okB W xs A B C D = K := ⟨_, rfl⟩
  by_cases hKt : K = true
  case neg =>
    have hKt : K = false := by simpa using hKt
    subst hKt
    replace hK := Lib.hid hK
    refine (do_no hK.out (by omega) _ _ _ p.out).mono ?_
    rintro e w3 ⟨⟨ao, co, rfl, ho⟩, hb⟩
    have o := Lib.hid ho.row
    have szw3 := hb.size
    replace p0 := kept hb (block_lt p0) p0
    replace p1 := kept hb (block_lt p1) p1
    replace s0 := kept hb (block_lt s0) s0
    replace s1 := kept hb (block_lt s1) s1
    replace s2 := kept hb (block_lt s2) s2
    replace s3 := kept hb (block_lt s3) s3
    replace p := Lib.hid (p.out.bel hb)
    replace bb := Lib.hid (bb.out.trans (hb.mono bb.out.size))
    clear hb
    clear ho
    have hbx : Below w3.heap.size w3 (w3.alloc (.cells #[.int .i64 0, .slice ao 0 co] 25)) := (Below.refl _ _).alloc (Nat.le_refl _) _
    replace p0 := kept hbx (block_lt p0) p0
    replace p1 := kept hbx (block_lt p1) p1
    replace s0 := kept hbx (block_lt s0) s0
    replace s1 := kept hbx (block_lt s1) s1
    replace s2 := kept hbx (block_lt s2) s2
    replace s3 := kept hbx (block_lt s3) s3
    replace p := Lib.hid (p.out.bel hbx)
    replace o := Lib.hid (o.out.bel hbx)
    replace bb := Lib.hid (bb.out.trans (hbx.mono bb.out.size))
    clear hbx
    have o0 : (w3.alloc (.cells #[.int .i64 0, .slice ao 0 co] 25)).cell? ⟨w3.heap.size, 0, none⟩ = some (.int .i64 0) := by simp
    have o1 : (w3.alloc (.cells #[.int .i64 0, .slice ao 0 co] 25)).cell? ⟨w3.heap.size, 1, none⟩ = some (.slice ao 0 co) := by simp
    go_wp2_with fail
    refine (dos_no hK.out (by omega) _ _ _ p.out).mono ?_
    rintro e w4 ⟨⟨aow, cow, rfl, ho⟩, hb⟩
    have ow := Lib.hid ho.row
    have szw4 : w3.heap.size + 1 ≤ w4.heap.size := by have := hb.size; simpa using this
    replace p0 := kept hb (block_lt p0) p0
    replace p1 := kept hb (block_lt p1) p1
    replace s0 := kept hb (block_lt s0) s0
    replace s1 := kept hb (block_lt s1) s1
    replace s2 := kept hb (block_lt s2) s2
    replace s3 := kept hb (block_lt s3) s3
    replace o0 := kept hb (block_lt o0) o0
    replace o1 := kept hb (block_lt o1) o1
    replace p := Lib.hid (p.out.bel hb)
    replace o := Lib.hid (o.out.bel hb)
    replace bb := Lib.hid (bb.out.trans (hb.mono bb.out.size))
    clear hb
    clear ho
    have hbx : Below w4.heap.size w4 (w4.alloc (.cells #[.int .i64 0, .slice aow 0 cow] 25)) := (Below.refl _ _).alloc (Nat.le_refl _) _
    replace p0 := kept hbx (block_lt p0) p0
    replace p1 := kept hbx (block_lt p1) p1
    replace s0 := kept hbx (block_lt s0) s0
    replace s1 := kept hbx (block_lt s1) s1
    replace s2 := kept hbx (block_lt s2) s2
    replace s3 := kept hbx (block_lt s3) s3
    replace o0 := kept hbx (block_lt o0) o0
    replace o1 := kept hbx (block_lt o1) o1
    replace p := Lib.hid (p.out.bel hbx)
    replace o := Lib.hid (o.out.bel hbx)
    replace ow := Lib.hid (ow.out.bel hbx)
    replace bb := Lib.hid (bb.out.trans (hbx.mono bb.out.size))
    clear hbx
    have ow0 : (w4.alloc (.cells #[.int .i64 0, .slice aow 0 cow] 25)).cell? ⟨w4.heap.size, 0, none⟩ = some (.int .i64 0) := by simp
    have ow1 : (w4.alloc (.cells #[.int .i64 0, .slice aow 0 cow] 25)).cell? ⟨w4.heap.size, 1, none⟩ = some (.slice aow 0 cow) := by simp
    go_wp2_with fail
    refine (sameImage_yes _ _ _ _ _ _ [] _ o.out ow.out (by omega)).mono ?_
    rintro e w5 ⟨rfl, hb⟩
    have szw5 : w4.heap.size + 1 ≤ w5.heap.size := by have := hb.size; simpa using this
    replace p0 := kept hb (block_lt p0) p0
    replace p1 := kept hb (block_lt p1) p1
    replace s0 := kept hb (block_lt s0) s0
    replace s1 := kept hb (block_lt s1) s1
    replace s2 := kept hb (block_lt s2) s2
    replace s3 := kept hb (block_lt s3) s3
    replace o0 := kept hb (block_lt o0) o0
    replace o1 := kept hb (block_lt o1) o1
    replace ow0 := kept hb (block_lt ow0) ow0
    replace ow1 := kept hb (block_lt ow1) ow1
    replace p := Lib.hid (p.out.bel hb)
    replace o := Lib.hid (o.out.bel hb)
    replace ow := Lib.hid (ow.out.bel hb)
    replace bb := Lib.hid (bb.out.trans (hb.mono bb.out.size))
    clear hb
    go_wp2_with fail
    refine (sameImage_yes _ _ _ _ _ _ [] _ o.out ow.out (by omega)).mono ?_
    rintro e w6 ⟨rfl, hb⟩
    have szw6 := hb.size
    replace p0 := kept hb (block_lt p0) p0
    replace p1 := kept hb (block_lt p1) p1
    replace s0 := kept hb (block_lt s0) s0
    replace s1 := kept hb (block_lt s1) s1
    replace s2 := kept hb (block_lt s2) s2
    replace s3 := kept hb (block_lt s3) s3
    replace o0 := kept hb (block_lt o0) o0
    replace o1 := kept hb (block_lt o1) o1
    replace ow0 := kept hb (block_lt ow0) ow0
    replace ow1 := kept hb (block_lt ow1) ow1
    replace p := Lib.hid (p.out.bel hb)
    replace o := Lib.hid (o.out.bel hb)
    replace ow := Lib.hid (ow.out.bel hb)
    replace bb := Lib.hid (bb.out.trans (hb.mono bb.out.size))
    clear hb
    go_wp2_with fail
    go_ret
    exact ⟨rfl, bb.out⟩
  subst hKt
  have hv := okB_valid hK
  have hI0 := validB_W hv
  obtain ⟨W, rfl⟩ := Int.eq_ofNat_of_zero_le (by omega : 0 ≤ W)
  have hI : Im W n xs := Im.of hv p.out.1
  obtain ⟨A, B, C, D, rfl, rfl, rfl, rfl, hAB, hBn, hCD, hDW, hsw⟩ := okB_im hI hK
  have hW6 := hI.w6
  have hW1 := hI.w1
  have hn1 := hI.l1
  have hn6 := hI.l6
  clear hv hI0 hsm
  obtain ⟨L, hL⟩ : ∃ L, flL xs W n A B C D = L := ⟨_, rfl⟩
  have hJ : Im W n L := hL ▸ fl_im hI A B C D
  have hK2 : okB W L A B C D = true := hL ▸ ok_done hI hAB hBn hCD hDW hsw
  replace hK := Lib.hid hK
  replace hK2 := Lib.hid hK2
  replace hL := Lib.hid hL
  replace hI := Lib.hid hI
  replace hJ := Lib.hid hJ
  replace hsw := Lib.hid hsw
  refine (do_ok hI.out hK.out hL.out _ _ _ p.out).mono ?_
  rintro e w7 ⟨⟨ao, co, rfl, ho⟩, hb⟩
  have o := Lib.hid ho.row
  have szw7 := hb.size
  replace p0 := kept hb (block_lt p0) p0
  replace p1 := kept hb (block_lt p1) p1
  replace s0 := kept hb (block_lt s0) s0
  replace s1 := kept hb (block_lt s1) s1
  replace s2 := kept hb (block_lt s2) s2
  replace s3 := kept hb (block_lt s3) s3
  replace p := Lib.hid (p.out.bel hb)
  replace bb := Lib.hid (bb.out.trans (hb.mono bb.out.size))
  clear hb
  clear ho
  have hbx : Below w7.heap.size w7 (w7.alloc (.cells #[.int .i64 W, .slice ao n co] 25)) := (Below.refl _ _).alloc (Nat.le_refl _) _
  replace p0 := kept hbx (block_lt p0) p0
  replace p1 := kept hbx (block_lt p1) p1
  replace s0 := kept hbx (block_lt s0) s0
  replace s1 := kept hbx (block_lt s1) s1
  replace s2 := kept hbx (block_lt s2) s2
  replace s3 := kept hbx (block_lt s3) s3
  replace p := Lib.hid (p.out.bel hbx)
  replace o := Lib.hid (o.out.bel hbx)
  replace bb := Lib.hid (bb.out.trans (hbx.mono bb.out.size))
  clear hbx
  have o0 : (w7.alloc (.cells #[.int .i64 W, .slice ao n co] 25)).cell? ⟨w7.heap.size, 0, none⟩ = some (.int .i64 W) := by simp
  have o1 : (w7.alloc (.cells #[.int .i64 W, .slice ao n co] 25)).cell? ⟨w7.heap.size, 1, none⟩ = some (.slice ao n co) := by simp
  go_wp2_with fail
  refine (dos_ok hI.out hK.out hL.out _ _ _ p.out).mono ?_
  rintro e w8 ⟨⟨aow, cow, rfl, ho⟩, hb⟩
  have ow := Lib.hid ho.row
  have szw8 : w7.heap.size + 1 ≤ w8.heap.size := by have := hb.size; simpa using this
  replace p0 := kept hb (block_lt p0) p0
  replace p1 := kept hb (block_lt p1) p1
  replace s0 := kept hb (block_lt s0) s0
  replace s1 := kept hb (block_lt s1) s1
  replace s2 := kept hb (block_lt s2) s2
  replace s3 := kept hb (block_lt s3) s3
  replace o0 := kept hb (block_lt o0) o0
  replace o1 := kept hb (block_lt o1) o1
  replace p := Lib.hid (p.out.bel hb)
  replace o := Lib.hid (o.out.bel hb)
  replace bb := Lib.hid (bb.out.trans (hb.mono bb.out.size))
  clear hb
  clear ho
  have hbx : Below w8.heap.size w8 (w8.alloc (.cells #[.int .i64 W, .slice aow n cow] 25)) := (Below.refl _ _).alloc (Nat.le_refl _) _
  replace p0 := kept hbx (block_lt p0) p0
  replace p1 := kept hbx (block_lt p1) p1
  replace s0 := kept hbx (block_lt s0) s0
  replace s1 := kept hbx (block_lt s1) s1
  replace s2 := kept hbx (block_lt s2) s2
  replace s3 := kept hbx (block_lt s3) s3
  replace o0 := kept hbx (block_lt o0) o0
  replace o1 := kept hbx (block_lt o1) o1
  replace p := Lib.hid (p.out.bel hbx)
  replace o := Lib.hid (o.out.bel hbx)
  replace ow := Lib.hid (ow.out.bel hbx)
  replace bb := Lib.hid (bb.out.trans (hbx.mono bb.out.size))
  clear hbx
  have ow0 : (w8.alloc (.cells #[.int .i64 W, .slice aow n cow] 25)).cell? ⟨w8.heap.size, 0, none⟩ = some (.int .i64 W) := by simp
  have ow1 : (w8.alloc (.cells #[.int .i64 W, .slice aow n cow] 25)).cell? ⟨w8.heap.size, 1, none⟩ = some (.slice aow n cow) := by simp
  go_wp2_with fail
  refine (sameImage_yes _ _ _ _ _ _ L _ o.out ow.out (by omega)).mono ?_
  rintro e w9 ⟨rfl, hb⟩
  have szw9 : w8.heap.size + 1 ≤ w9.heap.size := by have := hb.size; simpa using this
  replace p0 := kept hb (block_lt p0) p0
  replace p1 := kept hb (block_lt p1) p1
  replace s0 := kept hb (block_lt s0) s0
  replace s1 := kept hb (block_lt s1) s1
  replace s2 := kept hb (block_lt s2) s2
  replace s3 := kept hb (block_lt s3) s3
  replace o0 := kept hb (block_lt o0) o0
  replace o1 := kept hb (block_lt o1) o1
  replace ow0 := kept hb (block_lt ow0) ow0
  replace ow1 := kept hb (block_lt ow1) ow1
  replace p := Lib.hid (p.out.bel hb)
  replace o := Lib.hid (o.out.bel hb)
  replace ow := Lib.hid (ow.out.bel hb)
  replace bb := Lib.hid (bb.out.trans (hb.mono bb.out.size))
  clear hb
  clear ow0 ow1 ow
  have h4 : Hid (difI xs L W n = 4) := by rw [← hL.out]; exact dif_four hI.out hAB hBn hCD hDW
  have hsame : Hid (sameB W xs W L = true) := by rw [← hL.out]; exact fl_sums hI.out hAB hBn hCD hDW hsw.out
  have hb1 := Lib.hid (fun i m => dif1_bd xs L i m)
  have hbI := Lib.hid (fun k => difI_bd xs L hW6 k)
  clear s0 s1 s2 s3
  have P := Lib.hid (show LS w w9 w1.heap.size W s n cg xs from ⟨p0, p1, p.out, bb.out⟩)
  have O := Lib.hid (show LS w w9 w7.heap.size W ao n co L from ⟨o0, o1, o.out, bb.out⟩)
  clear p bb
  go_wp2_with fail
  clear p0 p1 o0 o1 o
  go_loopw [9, 10] (fun c i wr => ∃ k : Nat, k ≤ n ∧ i = .int .i64 k ∧ c = .int .i64 (difI xs L W k) ∧ Hid (LS w wr w1.heap.size W s n cg xs) ∧ Hid (LS w wr w7.heap.size W ao n co L)) (fun _ i _ => n - (intOf i).toNat)
  case atStart => exact ⟨0, Nat.zero_le _, rfl, rfl, P, O⟩
  case round =>
    clear P O
    obtain ⟨i, hi, rfl, rfl, P, O⟩ := hrel
    obtain ⟨wo, rfl⟩ : ∃ wo : World, wo = wr := ⟨_, rfl⟩
    have bIi := hbI.out i
    obtain ⟨F, hF⟩ : ∃ F, difI xs L W i = F := ⟨_, rfl⟩
    rw [hF] at bIi
    rw [hF]
    replace hF := Lib.hid hF
    have p0 := P.out.c0
    have p1 := P.out.c1
    have o0 := O.out.c0
    have o1 := O.out.c1
    by_cases hlt : i < n
    · go_wp2_with fail
      clear p0 p1 o0 o1
      go_loopw [9, 11] (fun c j wr => ∃ m : Nat, m ≤ W ∧ j = .int .i64 m ∧ c = .int .i64 (F + dif1 xs L i m) ∧ Hid (LS w wr w1.heap.size W s n cg xs) ∧ Hid (LS w wr w7.heap.size W ao n co L)) (fun _ j _ => W - (intOf j).toNat)
      case atStart => exact ⟨0, Nat.zero_le _, rfl, by simp [dif1, sumI], P, O⟩
      case round =>
        clear P O
        obtain ⟨m, hm, rfl, rfl, P, O⟩ := hrel
        have b1 := hb1.out i m
        have p0 := P.out.c0
        have p1 := P.out.c1
        have o0 := O.out.c0
        have o1 := O.out.c1
        by_cases hlm : m < W
        · have e1 := dif1_succ xs L i m
          rw [← has_cell hI.out hlt hlm, ← has_cell hJ.out hlt hlm] at e1
          obtain ⟨x, hx⟩ : ∃ x, hasB W xs i m = x := ⟨_, rfl⟩
          obtain ⟨z, hz⟩ : ∃ z, hasB W L i m = z := ⟨_, rfl⟩
          rw [hx, hz] at e1
          have fo0 := fun p : Bw wr => bw_cell o0 p
          have fo1 := fun p : Bw wr => bw_cell o1 p
          have fp0 := fun p : Bw wr => bw_cell p0 p
          have fp1 := fun p : Bw wr => bw_cell p1 p
          have rp := P.out.row
          have ro := O.out.row
          have cA : ∀ p : Bw wr, Calls Try.prog 32 #[.agg #[.int .i64 W, .slice s n cg], .int .i64 i, .int .i64 m] p.v (fun e w' => e = .returned (.bool x) ∧ ∃ q : Bw wr, w' = q.v) := fun p =>
            bw_of ((has_impl W s n cg xs i m _ (bw_row rp p) (by omega)).mono fun e w' hh => ⟨by rw [hh.1, hx], hh.2⟩)
          have cB : ∀ p : Bw wr, Calls Try.prog 32 #[.agg #[.int .i64 W, .slice ao n co], .int .i64 i, .int .i64 m] p.v (fun e w' => e = .returned (.bool z) ∧ ∃ q : Bw wr, w' = q.v) := fun p =>
            bw_of ((has_impl W ao n co L i m _ (bw_row ro p) (by omega)).mono fun e w' hh => ⟨by rw [hh.1, hz], hh.2⟩)
          replace cA := Lib.hid cA
          replace cB := Lib.hid cB
          have rpH := Lib.hid rp
          have roH := Lib.hid ro
          clear rp ro hx hz
          obtain ⟨E, hE⟩ : ∃ E, dif1 xs L i m = E := ⟨_, rfl⟩
          rw [hE] at e1 b1
          rw [hE]
          replace hE := Lib.hid hE
          by_cases hxz : x = z
          · subst hxz
            have hne : (x != x) = false := by cases x <;> rfl
            have e2 : Hid (dif1 xs L i (m + 1) = E) := by rw [e1, bne_self_eq_false]; show Hid (E + 0 = E); exact Int.add_zero E
            clear e1
            go_wp2_with fail
            refine wp_region_bw (by kernel_rfl) (by kernel_rfl) ?_
            repeat (go_big_quiet_step (first | (with_reducible exact cA.out _) | (with_reducible exact cB.out _)))
            refine wpQuiet_nil ?_
            intro _ hw'
            obtain ⟨pq, rfl⟩ := hw'
            go_wp2_with fail
            exact ⟨⟨m + 1, by omega, by go_num, by rw [e2.out], P.out.move pq.h, O.out.move pq.h⟩, by simp [intOf]; omega⟩
          · have hne : (x != z) = true := bne_iff_ne.2 hxz
            have hne2 : (!x == z) = true := by revert hxz; cases x <;> cases z <;> simp
            have e2 : Hid (dif1 xs L i (m + 1) = E + 1) := by rw [e1, hne]; exact rfl
            have hw1 : IntKind.i64.wrap (F + E + 1) = F + E + 1 := IntWalk.i64_in _ ⟨by omega, by omega⟩
            clear e1 hxz
            go_wp2_with fail
            refine wp_region_bw (by kernel_rfl) (by kernel_rfl) ?_
            repeat (go_big_quiet_step (first | (with_reducible exact cA.out _) | (with_reducible exact cB.out _)))
            refine wpQuiet_nil ?_
            intro _ hw'
            obtain ⟨pq, rfl⟩ := hw'
            go_wp2_with fail
            exact ⟨⟨m + 1, by omega, by go_num, by rw [e2.out, Int.add_assoc], P.out.move pq.h, O.out.move pq.h⟩, by simp [intOf]; omega⟩
        · have : m = W := by omega
          subst this
          go_wp2_with fail
          exact ⟨⟨i + 1, by omega, by go_num, by rw [difI_succ, hF.out], P, O⟩, by simp [intOf]; omega⟩
    · have : i = n := by omega
      subst this
      have hF4 : F = 4 := hF.out.symm.trans h4.out
      subst hF4
      have rp := Lib.hid P.out.row
      have ro := Lib.hid O.out.row
      go_wp2_with fail
      refine (same_impl W W s ao i i cg co xs L _ rp.out ro.out (by omega) (by omega)).mono ?_
      rintro e w9 ⟨rfl, hb⟩
      rw [hsame.out]
      go_wp2_with fail
      go_ret
      exact ⟨rfl, P.out.bel.trans (hb.mono P.out.bel.size)⟩

set_option maxRecDepth 100000 in
theorem lifted (os : Os) (started : os.Started) (H : Type) (enc : TypeId × Value → H) :
    ReturnsInHanded {} Try.checked os 3 .any (Rows.fnSwitchSumsSpec.pre6 enc Try.prog Try.f3 Rows.fnSwitchSumsRow.domain false) (Rows.fnSwitchSumsSpec.post enc Try.prog Try.f3 false true false false) := by
  refine returnsInHanded_of_change (C := Try.checked) own started (by kernel_rfl) Try.func3
    (ChangeSpec.witness6 (enc := enc) (C := Try.checked) false ⟨#[], #[.slice none 0 0], []⟩ 8 (by kernel_rfl) (by kernel_rfl) (by kernel_rfl) (by kernel_rfl)) ?_
  intro W base args ds gs before hval0 hW hcnd _
  have hval : ∀ (j : Nat) t v, Try.f3.params[j]? = some t → args[j]? = some v → Value.okWide Try.prog W .any base t v := hval0
  have hW' := hW
  obtain ⟨p, q, hA0, hV, rfl, hfz, hnd⟩ := hW
  have hA : DataW.TrodAll enc Try.prog W 0 (fun _ => true) true Try.f3.params.toList args.toList ds p := hA0
  rw [Try.params3] at hA hval
  obtain ⟨v0, vs0, d0, ds0, p0, q0, hargs, rfl, rfl, h0, r0⟩ := trodAll_cons hA
  obtain ⟨rfl, rfl, rfl⟩ := trodAll_nil r0
  obtain rfl : args = #[v0] := by cases args; simp_all
  obtain ⟨rfl, rfl⟩ := trodVars_none hV
  have k0 := h0
  have lt0 : ∀ x ∈ p0, x.block < W.heap.size := by obtain ⟨m, hm⟩ := k0; exact DataW.trod_lt m _ _ _ hm
  obtain ⟨a0, len0, cap0, z0, rfl, w0, l0, m0⟩ := open_code (hval 0 22 v0 rfl rfl) h0
  clear hA0 hval0
  refine (walk a0 len0 cap0 z0 W w0 l0 m0).mono fun e W' ⟨he, bel⟩ => ?_
  subst he
  exact ⟨_, rfl, _, _, _, [], _, [], hW', trodAll_mk1 (shut_bool Try.underlying4 _), (trodAll_cons_mk (Below.trod laidOut (by kernel_rfl) (of_decide_eq_true (by kernel_rfl)) k0 bel lt0) trodAll_mk0), rfl, bel.frame _, fun h => by cases h⟩

theorem closed : joinedFacts Try.prog 3 Try.f3 Rows.fnSwitchSumsSpec Rows.fnSwitchSumsRow = true := by
  simp only [joinedFacts, Bool.and_eq_true]
  repeat' apply And.intro
  all_goals first | with_reducible exact mayEnterOk | (with_reducible rw [liftsFinalOk]; kernel_rfl) | (with_reducible rw [makeOk]; kernel_rfl) | kernel_rfl

theorem over : Rows.fnSwitchSumsRow.holds Try.pinned (OpenSpec.ofChange Rows.fnSwitchSumsSpec) :=
  OpenClaim.holds_of_wide 3 Try.f3 rfl rfl rfl rfl rfl rfl rfl ⟨rfl, rfl, rfl, rfl, rfl⟩ rfl rfl rfl rfl rfl (by kernel_rfl) Try.func3 closed
    (of_decide_eq_true (by kernel_rfl)) (by unfold Func.isWrapper; first | (rw [if_pos (by decide +kernel)]; kernel_rfl) | (rw [if_neg (by decide +kernel)]; exact ⟨rfl, rfl⟩))
    (fun os started H enc _ => lifted os started H enc)

theorem proved : Rows.FnSwitchSumsSaid := over
#print axioms proved
end Go.Proofs.Ytnibmcihklaigaa.LFSwitchSums

