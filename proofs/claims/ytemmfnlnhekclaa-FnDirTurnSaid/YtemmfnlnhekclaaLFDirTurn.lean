/-
  For every slice of bytes the law FnDirTurn answers true: turning exchanges steps; nothing that was there is written; no condition.
-/
import Derived.Test.YtemmfnlnhekclaaO
import Derived.Test.YtemmfnlnhekclaaK
import Derived.Deep.RegionLaw
import Derived.Test.YtemmfnlnhekclaaZj
import Derived.Test.YtemmfnlnhekclaaZh
import Derived.Test.YtemmfnlnhekclaaEp
namespace Go.Proofs.Ytemmfnlnhekclaa.LFDirTurn
open Go.ChangeShapes Go.WideShapes Go.ChangeAt Go.RowKit Go.Joins

set_option maxHeartbeats 4000000 in
set_option maxRecDepth 100000 in
theorem walk (a : Option Addr) (len cap : Nat) (zs : List Int) (w : World) (h : Bys w a len zs) (hl : len ≤ cap) (hm : cap ≤ 9223372036854775807) :
    Calls Try.prog 9 #[.slice a len cap] w fun e w' => e = .returned (.bool true) ∧ Below w.heap.size w w' := by
  by_cases hbig : 1048576 < len
  · clear h
    go_enter Try.func9, Try.ntmps9
    go_wp2_with fail
    go_ret
    exact ⟨rfl, Below.refl _ _⟩
  go_enter Try.func9, Try.ntmps9
  go_wp2_with fail
  refine (draw_DrawDirSums a len cap zs _ h hl hm).mono ?_
  rintro e w1 ⟨V, s, n, cg, xs, D, rfl, hR, hn, hb1⟩
  clear h hl hm
  have bb := Lib.hid hb1
  have p := Lib.hid hR
  clear hR hb1
  have hbx : Below w1.heap.size w1 (w1.alloc (.cells #[.int .i64 V, .slice s n cg] 35)) := (Below.refl _ _).alloc (Nat.le_refl _) _
  replace p := Lib.hid (p.out.bel hbx)
  replace bb := Lib.hid (bb.out.trans (hbx.mono bb.out.size))
  clear hbx
  have p0 : (w1.alloc (.cells #[.int .i64 V, .slice s n cg] 35)).cell? ⟨w1.heap.size, 0, none⟩ = some (.int .i64 V) := by simp
  have p1 : (w1.alloc (.cells #[.int .i64 V, .slice s n cg] 35)).cell? ⟨w1.heap.size, 1, none⟩ = some (.slice s n cg) := by simp
  by_cases hv : (0 ≤ D ∧ D ≤ 7) ∧ validB V xs = true
  case neg =>
    go_wp2_with fail
    refine (ds_no hv hn.1 _ _ _ p.out).mono ?_
    rintro e w2 ⟨⟨aoo, coo, rfl, ho⟩, hb⟩
    have oo := Lib.hid ho.row
    have szw2 : w1.heap.size + 1 ≤ w2.heap.size := by have := hb.size; simpa using this
    replace p0 := kept hb (block_lt p0) p0
    replace p1 := kept hb (block_lt p1) p1
    replace p := Lib.hid (p.out.bel hb)
    replace bb := Lib.hid (bb.out.trans (hb.mono bb.out.size))
    clear hb
    clear ho
    go_wp2_with fail
    refine (ds_sno hv hn.1 _ _ _ p.out).mono ?_
    rintro e w3 ⟨⟨aow, cow, rfl, ho⟩, hb⟩
    have ow := Lib.hid ho.row
    have szw3 := hb.size
    replace p0 := kept hb (block_lt p0) p0
    replace p1 := kept hb (block_lt p1) p1
    replace p := Lib.hid (p.out.bel hb)
    replace oo := Lib.hid (oo.out.bel hb)
    replace bb := Lib.hid (bb.out.trans (hb.mono bb.out.size))
    clear hb
    clear ho
    go_wp2_with fail
    refine (same_yes _ _ _ _ _ [] _ oo.out ow.out (by omega)).mono ?_
    rintro e w4 ⟨rfl, hb⟩
    have szw4 := hb.size
    replace p0 := kept hb (block_lt p0) p0
    replace p1 := kept hb (block_lt p1) p1
    replace p := Lib.hid (p.out.bel hb)
    replace oo := Lib.hid (oo.out.bel hb)
    replace ow := Lib.hid (ow.out.bel hb)
    replace bb := Lib.hid (bb.out.trans (hb.mono bb.out.size))
    clear hb
    go_wp2_with fail
    refine (same_yes _ _ _ _ _ [] _ oo.out ow.out (by omega)).mono ?_
    rintro e w5 ⟨rfl, hb⟩
    have szw5 := hb.size
    replace p0 := kept hb (block_lt p0) p0
    replace p1 := kept hb (block_lt p1) p1
    replace p := Lib.hid (p.out.bel hb)
    replace oo := Lib.hid (oo.out.bel hb)
    replace ow := Lib.hid (ow.out.bel hb)
    replace bb := Lib.hid (bb.out.trans (hb.mono bb.out.size))
    clear hb
    go_wp2_with fail
    go_ret
    exact ⟨rfl, bb.out⟩
  obtain ⟨hD, hv2⟩ := hv
  have hI0 := validB_W hv2
  obtain ⟨W, rfl⟩ := Int.eq_ofNat_of_zero_le (by omega : 0 ≤ V)
  obtain ⟨d, rfl⟩ := Int.eq_ofNat_of_zero_le hD.1
  have hd : d < 8 := by omega
  have hI : Im W n xs := Im.of hv2 p.out.1
  clear hv2 hI0 hD
  have hW6 := hI.w6
  have hW1 := hI.w1
  have hn1 := hI.l1
  have hn6 := hI.l6
  have hNb := nmN_bd hd hn1 hn6 hW1 hW6
  have hNi := num_int hd hn1 hW1
  have hLb := Lib.hid (fun k (hk : k < numN d n W) => ds_bd hI hd hk)
  obtain ⟨L, hL⟩ : ∃ L, dsL d xs W n = L := ⟨_, rfl⟩
  obtain ⟨N, hN⟩ : ∃ N, numN d n W = N := ⟨_, rfl⟩
  rw [hN] at hNb hNi hLb
  rw [hL] at hLb
  have hN0 : ((N : Int) == 0) = false := by rw [beq_eq_false_iff_ne]; omega
  have hT := hI.turn
  have ht3 := ds_turn3 hI
  have n3 : numN 3 W n = numN 3 n W := Eq.trans (ds_len 3 (turnL xs W n) n W).symm (Eq.trans (congrArg List.length ht3) (ds_len 3 xs W n))
  have b3 := (nmN_bd (d := 3) (by omega) hn1 hn6 hW1 hW6).2
  have b5 := nmN_bd (d := 5) (by omega) hn1 hn6 hW1 hW6
  have n4 := num_45 n W
  have ht4 := Lib.hid (fun k (hk : k < numN 4 W n) => ds_turn4 hI hk)
  obtain ⟨N3, hN3⟩ : ∃ N3, numN 3 n W = N3 := ⟨_, rfl⟩
  obtain ⟨M, hM⟩ : ∃ M, numN 5 n W = M := ⟨_, rfl⟩
  obtain ⟨L3, hL3⟩ : ∃ L3, dsL 3 xs W n = L3 := ⟨_, rfl⟩
  obtain ⟨L4, hL4⟩ : ∃ L4, dsL 4 (turnL xs W n) n W = L4 := ⟨_, rfl⟩
  obtain ⟨L5, hL5⟩ : ∃ L5, dsL 5 xs W n = L5 := ⟨_, rfl⟩
  rw [hN3] at n3 b3
  rw [hM] at n4 b5 ht4
  rw [n4, hL4, hL5] at ht4
  rw [hL3] at ht3
  replace hT := Lib.hid hT
  replace ht3 := Lib.hid ht3
  replace n3 := Lib.hid n3
  replace n4 := Lib.hid n4
  replace hN3 := Lib.hid hN3
  replace hM := Lib.hid hM
  replace hL3 := Lib.hid hL3
  replace hL4 := Lib.hid hL4
  replace hL5 := Lib.hid hL5
  replace hL := Lib.hid hL
  replace hN := Lib.hid hN
  replace hI := Lib.hid hI
  replace hNi := Lib.hid hNi
  go_wp2_with fail
  refine (ds_ok hI.out hd rfl hL.out hN.out _ _ _ p.out).mono ?_
  rintro e w6 ⟨⟨aoo, coo, rfl, ho⟩, hb⟩
  have oo := Lib.hid ho.row
  have szw6 : w1.heap.size + 1 ≤ w6.heap.size := by have := hb.size; simpa using this
  replace p0 := kept hb (block_lt p0) p0
  replace p1 := kept hb (block_lt p1) p1
  replace p := Lib.hid (p.out.bel hb)
  replace bb := Lib.hid (bb.out.trans (hb.mono bb.out.size))
  clear hb
  clear ho
  go_wp2_with fail
  refine (ds_sok hI.out hd rfl hL.out hN.out _ _ _ p.out).mono ?_
  rintro e w7 ⟨⟨aow, cow, rfl, ho⟩, hb⟩
  have ow := Lib.hid ho.row
  have szw7 := hb.size
  replace p0 := kept hb (block_lt p0) p0
  replace p1 := kept hb (block_lt p1) p1
  replace p := Lib.hid (p.out.bel hb)
  replace oo := Lib.hid (oo.out.bel hb)
  replace bb := Lib.hid (bb.out.trans (hb.mono bb.out.size))
  clear hb
  clear ho
  go_wp2_with fail
  refine (same_yes _ _ _ _ _ L _ oo.out ow.out (by omega)).mono ?_
  rintro e w8 ⟨rfl, hb⟩
  have szw8 := hb.size
  replace p0 := kept hb (block_lt p0) p0
  replace p1 := kept hb (block_lt p1) p1
  replace p := Lib.hid (p.out.bel hb)
  replace oo := Lib.hid (oo.out.bel hb)
  replace ow := Lib.hid (ow.out.bel hb)
  replace bb := Lib.hid (bb.out.trans (hb.mono bb.out.size))
  clear hb
  clear ow
  go_wp2_with fail
  refine (turn_ok hI.out _ _ _ p.out).mono ?_
  rintro e w9 ⟨⟨ab, cb, rfl, ho⟩, hb⟩
  have b := Lib.hid ho.row
  have szw9 := hb.size
  replace p0 := kept hb (block_lt p0) p0
  replace p1 := kept hb (block_lt p1) p1
  replace p := Lib.hid (p.out.bel hb)
  replace oo := Lib.hid (oo.out.bel hb)
  replace bb := Lib.hid (bb.out.trans (hb.mono bb.out.size))
  clear hb
  clear ho
  have hbx : Below w9.heap.size w9 (w9.alloc (.cells #[.int .i64 n, .slice ab W cb] 35)) := (Below.refl _ _).alloc (Nat.le_refl _) _
  replace p0 := kept hbx (block_lt p0) p0
  replace p1 := kept hbx (block_lt p1) p1
  replace p := Lib.hid (p.out.bel hbx)
  replace oo := Lib.hid (oo.out.bel hbx)
  replace b := Lib.hid (b.out.bel hbx)
  replace bb := Lib.hid (bb.out.trans (hbx.mono bb.out.size))
  clear hbx
  have b0 : (w9.alloc (.cells #[.int .i64 n, .slice ab W cb] 35)).cell? ⟨w9.heap.size, 0, none⟩ = some (.int .i64 n) := by simp
  have b1 : (w9.alloc (.cells #[.int .i64 n, .slice ab W cb] 35)).cell? ⟨w9.heap.size, 1, none⟩ = some (.slice ab W cb) := by simp
  go_wp2_with fail
  refine (ds_ok (D := 4) hT.out (show 4 < 8 by omega) (by decide) hL4.out n4.out _ _ _ b.out).mono ?_
  rintro e w10 ⟨⟨ax, cx, rfl, ho⟩, hb⟩
  have x := Lib.hid ho.row
  have szw10 : w9.heap.size + 1 ≤ w10.heap.size := by have := hb.size; simpa using this
  replace p0 := kept hb (block_lt p0) p0
  replace p1 := kept hb (block_lt p1) p1
  replace b0 := kept hb (block_lt b0) b0
  replace b1 := kept hb (block_lt b1) b1
  replace p := Lib.hid (p.out.bel hb)
  replace oo := Lib.hid (oo.out.bel hb)
  replace b := Lib.hid (b.out.bel hb)
  replace bb := Lib.hid (bb.out.trans (hb.mono bb.out.size))
  clear hb
  clear ho
  go_wp2_with fail
  refine (ds_ok (D := 5) hI.out (show 5 < 8 by omega) (by decide) hL5.out hM.out _ _ _ p.out).mono ?_
  rintro e w11 ⟨⟨av, cv, rfl, ho⟩, hb⟩
  have v := Lib.hid ho.row
  have szw11 := hb.size
  replace p0 := kept hb (block_lt p0) p0
  replace p1 := kept hb (block_lt p1) p1
  replace b0 := kept hb (block_lt b0) b0
  replace b1 := kept hb (block_lt b1) b1
  replace p := Lib.hid (p.out.bel hb)
  replace oo := Lib.hid (oo.out.bel hb)
  replace b := Lib.hid (b.out.bel hb)
  replace x := Lib.hid (x.out.bel hb)
  replace bb := Lib.hid (bb.out.trans (hb.mono bb.out.size))
  clear hb
  clear ho
  go_wp2_with fail
  go_loopw [11] (fun i wr => ∃ k : Nat, k ≤ M ∧ i = .int .i64 k ∧ wr.cell? ⟨w1.heap.size, 0, none⟩ = some (.int .i64 W) ∧ wr.cell? ⟨w1.heap.size, 1, none⟩ = some (.slice s n cg) ∧ wr.cell? ⟨w9.heap.size, 0, none⟩ = some (.int .i64 n) ∧ wr.cell? ⟨w9.heap.size, 1, none⟩ = some (.slice ab W cb) ∧ Hid (Row wr s n xs) ∧ Hid (Row wr aoo N L) ∧ Hid (Row wr ab W (turnL xs W n)) ∧ Hid (Row wr ax M L4) ∧ Hid (Row wr av M L5) ∧ Hid (Below w.heap.size w wr)) (fun i _ => M - (intOf i).toNat)
  case atStart => exact ⟨0, Nat.zero_le _, rfl, p0, p1, b0, b1, p, oo, b, x, v, bb⟩
  case round =>
    clear p0 p1 b0 b1 p oo b x v bb
    obtain ⟨k, hk, rfl, p0, p1, b0, b1, p, oo, b, x, v, bb⟩ := hrel
    obtain ⟨w12, rfl⟩ : ∃ w12 : World, w12 = wr := ⟨_, rfl⟩
    by_cases hlt : k < M
    case pos =>
      obtain ⟨bx, ox, ex, hc⟩ := row_at x.out hlt
      obtain ⟨by_, oy, ey, hc'⟩ := row_at v.out (show M - 1 - k < M by omega)
      subst ex
      subst ey
      rw [ht4.out k hlt] at hc
      obtain ⟨vv, hv0⟩ : ∃ vv, (L5).getD (M - 1 - k) 0 = vv := ⟨_, rfl⟩
      rw [hv0] at hc hc'
      obtain ⟨c, hce⟩ : ∃ c : Nat, c = M - 1 - k := ⟨_, rfl⟩
      rw [← hce] at hc'
      have hce' : (M : Int) - 1 - (k : Int) = (c : Int) := by omega
      have hcM : c < M := by omega
      have ev1 : IntKind.i64.wrap ((M : Int) - 1) = (M : Int) - 1 := IntWalk.i64_in _ ⟨by omega, by omega⟩
      have ev2 : IntKind.i64.wrap (c : Int) = (c : Int) := IntWalk.i64_in _ ⟨by omega, by omega⟩
      replace hv0 := Lib.hid hv0
      clear hce
      go_wp2_with fail
      go_quiet (fail)
      have hdr : Below w12.heap.size w12 (w12.drewN nq) := below_drewN (Below.refl _ _) nq
      replace p0 := kept hdr (block_lt p0) p0
      replace p1 := kept hdr (block_lt p1) p1
      replace b0 := kept hdr (block_lt b0) b0
      replace b1 := kept hdr (block_lt b1) b1
      replace p := Lib.hid (p.out.bel hdr)
      replace oo := Lib.hid (oo.out.bel hdr)
      replace b := Lib.hid (b.out.bel hdr)
      replace x := Lib.hid (x.out.bel hdr)
      replace v := Lib.hid (v.out.bel hdr)
      replace bb := Lib.hid (bb.out.trans (hdr.mono bb.out.size))
      clear hdr
      generalize hwq : w12.drewN nq = w13 at *
      clear hwq
      go_wp2_with fail
      skip
      exact ⟨⟨k + 1, by omega, by go_num, p0, p1, b0, b1, p, oo, b, x, v, bb⟩, by simp [intOf]; omega⟩
    obtain rfl : M = k := by omega
    clear hlt hk
    have tok0 : True := trivial
    go_wp2_with fail
    go_region_law (first | ((go_simp; go_at_call 27; have _t := tok0; (with_reducible refine (ds_ok (D := 3) hT.out (show 3 < 8 by omega) (by decide) ht3.out n3.out _ _ _ (b.out.bel ((Below.refl _ _).drew))).mono ?_); rintro e w14 ⟨⟨au1, cu1, rfl, ho⟩, hb⟩; have szw14 := hb.size; have u1 := Lib.hid ho.row; replace p0 := kept hb (block_lt (show w12.drew.cell? _ = _ from p0)) (show w12.drew.cell? _ = _ from p0); replace p1 := kept hb (block_lt (show w12.drew.cell? _ = _ from p1)) (show w12.drew.cell? _ = _ from p1); replace b0 := kept hb (block_lt (show w12.drew.cell? _ = _ from b0)) (show w12.drew.cell? _ = _ from b0); replace b1 := kept hb (block_lt (show w12.drew.cell? _ = _ from b1)) (show w12.drew.cell? _ = _ from b1); replace p := Lib.hid ((p.out.bel ((Below.refl _ _).drew)).bel hb); replace oo := Lib.hid ((oo.out.bel ((Below.refl _ _).drew)).bel hb); replace b := Lib.hid ((b.out.bel ((Below.refl _ _).drew)).bel hb); replace x := Lib.hid ((x.out.bel ((Below.refl _ _).drew)).bel hb); replace v := Lib.hid ((v.out.bel ((Below.refl _ _).drew)).bel hb); replace bb := Lib.hid (bb.out.drew.trans (hb.mono bb.out.drew.size)); clear hb ho tok0 _t; have tok1 : True := trivial)) | ((go_simp; go_at_call 27; have _t := tok1; (with_reducible refine (ds_ok (D := 3) hI.out (show 3 < 8 by omega) (by decide) hL3.out hN3.out _ _ _ p.out).mono ?_); rintro e w15 ⟨⟨au2, cu2, rfl, ho⟩, hb⟩; have szw15 := hb.size; have u2 := Lib.hid ho.row; replace p0 := kept hb (block_lt p0) p0; replace p1 := kept hb (block_lt p1) p1; replace b0 := kept hb (block_lt b0) b0; replace b1 := kept hb (block_lt b1) b1; replace p := Lib.hid (p.out.bel hb); replace oo := Lib.hid (oo.out.bel hb); replace b := Lib.hid (b.out.bel hb); replace x := Lib.hid (x.out.bel hb); replace v := Lib.hid (v.out.bel hb); replace u1 := Lib.hid (u1.out.bel hb); replace bb := Lib.hid (bb.out.trans (hb.mono bb.out.size)); clear hb ho tok1 _t; have tok2 : True := trivial)) | ((go_simp; go_at_call 29; have _t := tok2; (with_reducible refine (same_yes _ _ _ _ _ L3 _ u1.out u2.out (by omega)).mono ?_); rintro e w16 ⟨rfl, hb⟩; have szw16 := hb.size; replace p0 := kept hb (block_lt p0) p0; replace p1 := kept hb (block_lt p1) p1; replace b0 := kept hb (block_lt b0) b0; replace b1 := kept hb (block_lt b1) b1; replace p := Lib.hid (p.out.bel hb); replace oo := Lib.hid (oo.out.bel hb); replace b := Lib.hid (b.out.bel hb); replace x := Lib.hid (x.out.bel hb); replace v := Lib.hid (v.out.bel hb); replace u1 := Lib.hid (u1.out.bel hb); replace u2 := Lib.hid (u2.out.bel hb); replace bb := Lib.hid (bb.out.trans (hb.mono bb.out.size)); clear hb tok2 _t; have tok3 : True := trivial)))
    all_goals
      go_wp2_with fail
      go_ret
      exact ⟨rfl, bb.out⟩

set_option maxRecDepth 100000 in
theorem lifted (os : Os) (started : os.Started) (H : Type) (enc : TypeId × Value → H) :
    ReturnsInHanded {} Try.checked os 9 .any (Rows.fnDirTurnSpec.pre6 enc Try.prog Try.f9 Rows.fnDirTurnRow.domain false) (Rows.fnDirTurnSpec.post enc Try.prog Try.f9 false true false false) := by
  refine returnsInHanded_of_change (C := Try.checked) own started (by kernel_rfl) Try.func9
    (ChangeSpec.witness6 (enc := enc) (C := Try.checked) false ⟨#[], #[.slice none 0 0], []⟩ 8 (by kernel_rfl) (by kernel_rfl) (by kernel_rfl) (by kernel_rfl)) ?_
  intro W base args ds gs before hval0 hW hcnd _
  have hval : ∀ (j : Nat) t v, Try.f9.params[j]? = some t → args[j]? = some v → Value.okWide Try.prog W .any base t v := hval0
  have hW' := hW
  obtain ⟨p, q, hA0, hV, rfl, hfz, hnd⟩ := hW
  have hA : DataW.TrodAll enc Try.prog W 0 (fun _ => true) true Try.f9.params.toList args.toList ds p := hA0
  rw [Try.params9] at hA hval
  obtain ⟨v0, vs0, d0, ds0, p0, q0, hargs, rfl, rfl, h0, r0⟩ := trodAll_cons hA
  obtain ⟨rfl, rfl, rfl⟩ := trodAll_nil r0
  obtain rfl : args = #[v0] := by cases args; simp_all
  obtain ⟨rfl, rfl⟩ := trodVars_none hV
  have k0 := h0
  have lt0 : ∀ x ∈ p0, x.block < W.heap.size := by obtain ⟨m, hm⟩ := k0; exact DataW.trod_lt m _ _ _ hm
  obtain ⟨a0, len0, cap0, z0, rfl, w0, l0, m0⟩ := open_code (hval 0 22 v0 rfl rfl) h0
  clear hA0 hval0
  refine (walk a0 len0 cap0 z0 W w0 l0 m0).mono fun e W' ⟨he, bel⟩ => ?_
  subst he
  exact ⟨_, rfl, _, _, _, [], _, [], hW', trodAll_mk1 (shut_bool Try.underlying4 _), (trodAll_cons_mk (Below.trod laidOut (by kernel_rfl) (of_decide_eq_true (by kernel_rfl)) k0 bel lt0) trodAll_mk0), rfl, bel.frame _, fun h => by cases h⟩

theorem closed : joinedFacts Try.prog 9 Try.f9 Rows.fnDirTurnSpec Rows.fnDirTurnRow = true := by
  simp only [joinedFacts, Bool.and_eq_true]
  repeat' apply And.intro
  all_goals first | with_reducible exact mayEnterOk | (with_reducible rw [liftsFinalOk]; kernel_rfl) | (with_reducible rw [makeOk]; kernel_rfl) | kernel_rfl

theorem over : Rows.fnDirTurnRow.holds Try.pinned (OpenSpec.ofChange Rows.fnDirTurnSpec) :=
  OpenClaim.holds_of_wide 9 Try.f9 rfl rfl rfl rfl rfl rfl rfl ⟨rfl, rfl, rfl, rfl, rfl⟩ rfl rfl rfl rfl rfl (by kernel_rfl) Try.func9 closed
    (of_decide_eq_true (by kernel_rfl)) (by unfold Func.isWrapper; first | (rw [if_pos (by decide +kernel)]; kernel_rfl) | (rw [if_neg (by decide +kernel)]; exact ⟨rfl, rfl⟩))
    (fun os started H enc _ => lifted os started H enc)

theorem proved : Rows.FnDirTurnSaid := over
#print axioms proved
end Go.Proofs.Ytemmfnlnhekclaa.LFDirTurn

