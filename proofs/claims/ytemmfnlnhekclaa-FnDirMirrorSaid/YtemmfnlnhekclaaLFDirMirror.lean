/-
  For every slice of bytes the law FnDirMirror answers true: a mirror exchanges directions; nothing that was there is written; no condition.
-/
import Derived.Test.YtemmfnlnhekclaaO
import Derived.Test.YtemmfnlnhekclaaK
import Derived.Deep.RegionLaw
import Derived.Test.YtemmfnlnhekclaaZj
import Derived.Test.YtemmfnlnhekclaaZh
import Derived.Test.YtemmfnlnhekclaaEp
namespace Go.Proofs.Ytemmfnlnhekclaa.LFDirMirror
open Go.ChangeShapes Go.WideShapes Go.ChangeAt Go.RowKit Go.Joins

set_option maxHeartbeats 4000000 in
set_option maxRecDepth 100000 in
theorem walk (a : Option Addr) (len cap : Nat) (zs : List Int) (w : World) (h : Bys w a len zs) (hl : len ≤ cap) (hm : cap ≤ 9223372036854775807) :
    Calls Try.prog 8 #[.slice a len cap] w fun e w' => e = .returned (.bool true) ∧ Below w.heap.size w w' := by
  by_cases hbig : 1048576 < len
  · clear h
    go_enter Try.func8, Try.ntmps8
    go_wp2_with fail
    go_ret
    exact ⟨rfl, Below.refl _ _⟩
  go_enter Try.func8, Try.ntmps8
  go_wp2_with fail
  refine (draw_DrawDirSums a len cap zs _ h hl hm).mono ?_
  rintro e w1 ⟨V, s, n, cg, xs, D, rfl, hR, hn, hb1⟩
  clear h hl hm
  have bb := Lib.hid hb1
  have p := Lib.hid hR
  clear hR hb1
  have hbx : Below w1.heap.size w1 (w1.alloc (.cells #[.int .i64 V, .slice s n cg] 35)) := (Below.refl _ _).alloc (Nat.le_refl _) _
  replace p := Lib.hid (p.out.bel hbx)
  replace bb := Lib.hid (bb.out.trans (hbx.mono bb.out.size))
  clear hbx
  have p0 : (w1.alloc (.cells #[.int .i64 V, .slice s n cg] 35)).cell? ⟨w1.heap.size, 0, none⟩ = some (.int .i64 V) := by simp
  have p1 : (w1.alloc (.cells #[.int .i64 V, .slice s n cg] 35)).cell? ⟨w1.heap.size, 1, none⟩ = some (.slice s n cg) := by simp
  by_cases hv : (0 ≤ D ∧ D ≤ 7) ∧ validB V xs = true
  case neg =>
    go_wp2_with fail
    refine (ds_no hv hn.1 _ _ _ p.out).mono ?_
    rintro e w2 ⟨⟨aoo, coo, rfl, ho⟩, hb⟩
    have oo := Lib.hid ho.row
    have szw2 : w1.heap.size + 1 ≤ w2.heap.size := by have := hb.size; simpa using this
    replace p0 := kept hb (block_lt p0) p0
    replace p1 := kept hb (block_lt p1) p1
    replace p := Lib.hid (p.out.bel hb)
    replace bb := Lib.hid (bb.out.trans (hb.mono bb.out.size))
    clear hb
    clear ho
    go_wp2_with fail
    refine (ds_sno hv hn.1 _ _ _ p.out).mono ?_
    rintro e w3 ⟨⟨aow, cow, rfl, ho⟩, hb⟩
    have ow := Lib.hid ho.row
    have szw3 := hb.size
    replace p0 := kept hb (block_lt p0) p0
    replace p1 := kept hb (block_lt p1) p1
    replace p := Lib.hid (p.out.bel hb)
    replace oo := Lib.hid (oo.out.bel hb)
    replace bb := Lib.hid (bb.out.trans (hb.mono bb.out.size))
    clear hb
    clear ho
    go_wp2_with fail
    refine (same_yes _ _ _ _ _ [] _ oo.out ow.out (by omega)).mono ?_
    rintro e w4 ⟨rfl, hb⟩
    have szw4 := hb.size
    replace p0 := kept hb (block_lt p0) p0
    replace p1 := kept hb (block_lt p1) p1
    replace p := Lib.hid (p.out.bel hb)
    replace oo := Lib.hid (oo.out.bel hb)
    replace ow := Lib.hid (ow.out.bel hb)
    replace bb := Lib.hid (bb.out.trans (hb.mono bb.out.size))
    clear hb
    go_wp2_with fail
    refine (same_yes _ _ _ _ _ [] _ oo.out ow.out (by omega)).mono ?_
    rintro e w5 ⟨rfl, hb⟩
    have szw5 := hb.size
    replace p0 := kept hb (block_lt p0) p0
    replace p1 := kept hb (block_lt p1) p1
    replace p := Lib.hid (p.out.bel hb)
    replace oo := Lib.hid (oo.out.bel hb)
    replace ow := Lib.hid (ow.out.bel hb)
    replace bb := Lib.hid (bb.out.trans (hb.mono bb.out.size))
    clear hb
    go_wp2_with fail
    go_ret
    exact ⟨rfl, bb.out⟩
  obtain ⟨hD, hv2⟩ := hv
  have hI0 := validB_W hv2
  obtain ⟨W, rfl⟩ := Int.eq_ofNat_of_zero_le (by omega : 0 ≤ V)
  obtain ⟨d, rfl⟩ := Int.eq_ofNat_of_zero_le hD.1
  have hd : d < 8 := by omega
  have hI : Im W n xs := Im.of hv2 p.out.1
  clear hv2 hI0 hD
  have hW6 := hI.w6
  have hW1 := hI.w1
  have hn1 := hI.l1
  have hn6 := hI.l6
  have hNb := nmN_bd hd hn1 hn6 hW1 hW6
  have hNi := num_int hd hn1 hW1
  have hLb := Lib.hid (fun k (hk : k < numN d n W) => ds_bd hI hd hk)
  obtain ⟨L, hL⟩ : ∃ L, dsL d xs W n = L := ⟨_, rfl⟩
  obtain ⟨N, hN⟩ : ∃ N, numN d n W = N := ⟨_, rfl⟩
  rw [hN] at hNb hNi hLb
  rw [hL] at hLb
  have hN0 : ((N : Int) == 0) = false := by rw [beq_eq_false_iff_ne]; omega
  have hM := hI.mir
  have hm2 := ds_mir hI
  replace hM := Lib.hid hM
  have hm24 := Lib.hid hm2
  clear hm2
  replace hL := Lib.hid hL
  replace hN := Lib.hid hN
  replace hI := Lib.hid hI
  replace hNi := Lib.hid hNi
  go_wp2_with fail
  refine (ds_ok hI.out hd rfl hL.out hN.out _ _ _ p.out).mono ?_
  rintro e w6 ⟨⟨aoo, coo, rfl, ho⟩, hb⟩
  have oo := Lib.hid ho.row
  have szw6 : w1.heap.size + 1 ≤ w6.heap.size := by have := hb.size; simpa using this
  replace p0 := kept hb (block_lt p0) p0
  replace p1 := kept hb (block_lt p1) p1
  replace p := Lib.hid (p.out.bel hb)
  replace bb := Lib.hid (bb.out.trans (hb.mono bb.out.size))
  clear hb
  clear ho
  go_wp2_with fail
  refine (ds_sok hI.out hd rfl hL.out hN.out _ _ _ p.out).mono ?_
  rintro e w7 ⟨⟨aow, cow, rfl, ho⟩, hb⟩
  have ow := Lib.hid ho.row
  have szw7 := hb.size
  replace p0 := kept hb (block_lt p0) p0
  replace p1 := kept hb (block_lt p1) p1
  replace p := Lib.hid (p.out.bel hb)
  replace oo := Lib.hid (oo.out.bel hb)
  replace bb := Lib.hid (bb.out.trans (hb.mono bb.out.size))
  clear hb
  clear ho
  go_wp2_with fail
  refine (same_yes _ _ _ _ _ L _ oo.out ow.out (by omega)).mono ?_
  rintro e w8 ⟨rfl, hb⟩
  have szw8 := hb.size
  replace p0 := kept hb (block_lt p0) p0
  replace p1 := kept hb (block_lt p1) p1
  replace p := Lib.hid (p.out.bel hb)
  replace oo := Lib.hid (oo.out.bel hb)
  replace ow := Lib.hid (ow.out.bel hb)
  replace bb := Lib.hid (bb.out.trans (hb.mono bb.out.size))
  clear hb
  clear ow
  go_wp2_with fail
  refine (mirror_ok hI.out _ _ _ p.out).mono ?_
  rintro e w9 ⟨⟨ab, cb, rfl, ho⟩, hb⟩
  have b := Lib.hid ho.row
  have szw9 := hb.size
  replace p0 := kept hb (block_lt p0) p0
  replace p1 := kept hb (block_lt p1) p1
  replace p := Lib.hid (p.out.bel hb)
  replace oo := Lib.hid (oo.out.bel hb)
  replace bb := Lib.hid (bb.out.trans (hb.mono bb.out.size))
  clear hb
  clear ho
  have hbx : Below w9.heap.size w9 (w9.alloc (.cells #[.int .i64 W, .slice ab n cb] 35)) := (Below.refl _ _).alloc (Nat.le_refl _) _
  replace p0 := kept hbx (block_lt p0) p0
  replace p1 := kept hbx (block_lt p1) p1
  replace p := Lib.hid (p.out.bel hbx)
  replace oo := Lib.hid (oo.out.bel hbx)
  replace b := Lib.hid (b.out.bel hbx)
  replace bb := Lib.hid (bb.out.trans (hbx.mono bb.out.size))
  clear hbx
  have b0 : (w9.alloc (.cells #[.int .i64 W, .slice ab n cb] 35)).cell? ⟨w9.heap.size, 0, none⟩ = some (.int .i64 W) := by simp
  have b1 : (w9.alloc (.cells #[.int .i64 W, .slice ab n cb] 35)).cell? ⟨w9.heap.size, 1, none⟩ = some (.slice ab n cb) := by simp
  go_wp2_with fail
  obtain ⟨w10, hwn⟩ : ∃ w10, w9.alloc (.cells #[.int .i64 W, .slice ab n cb] 35) = w10 := ⟨_, rfl⟩
  have szw10 : w9.heap.size + 1 ≤ w10.heap.size := by rw [← hwn]; simp
  rw [hwn] at p0 p1 b0 b1 p oo b bb
  (try rw [hwn])
  clear hwn
  have n2 : numN 2 n W = numN 3 n W := Eq.trans (ds_len 2 (mirL xs W n) W n).symm (Eq.trans (congrArg List.length hm24.out.1) (ds_len 3 xs W n))
  have n4 : numN 4 n W = numN 6 n W := Eq.trans (ds_len 4 (mirL xs W n) W n).symm (Eq.trans (congrArg List.length hm24.out.2) (ds_len 6 xs W n))
  have b3 := (nmN_bd (d := 3) (by omega) hn1 hn6 hW1 hW6).2
  have b6 := (nmN_bd (d := 6) (by omega) hn1 hn6 hW1 hW6).2
  replace n2 := Lib.hid n2
  replace n4 := Lib.hid n4
  obtain ⟨N3, hN3⟩ : ∃ N3, numN 3 n W = N3 := ⟨_, rfl⟩
  obtain ⟨N6, hN6⟩ : ∃ N6, numN 6 n W = N6 := ⟨_, rfl⟩
  rw [hN3] at n2 b3
  rw [hN6] at n4 b6
  obtain ⟨L3, hL3⟩ : ∃ L3, dsL 3 xs W n = L3 := ⟨_, rfl⟩
  obtain ⟨L6, hL6⟩ : ∃ L6, dsL 6 xs W n = L6 := ⟨_, rfl⟩
  rw [hL3, hL6] at hm24
  replace hN3 := Lib.hid hN3
  replace hN6 := Lib.hid hN6
  replace hL3 := Lib.hid hL3
  replace hL6 := Lib.hid hL6
  have tok0 : True := trivial
  go_wp2_with fail
  go_region_law (first | ((go_simp; go_at_call 27; have _t := tok0; (with_reducible refine (ds_ok (D := 2) hM.out (show 2 < 8 by omega) (by decide) hm24.out.1 n2.out _ _ _ (b.out.bel ((Below.refl _ _).drew))).mono ?_); rintro e w11 ⟨⟨au1, cu1, rfl, ho⟩, hb⟩; have szw11 := hb.size; have u1 := Lib.hid ho.row; replace p0 := kept hb (block_lt (show w10.drew.cell? _ = _ from p0)) (show w10.drew.cell? _ = _ from p0); replace p1 := kept hb (block_lt (show w10.drew.cell? _ = _ from p1)) (show w10.drew.cell? _ = _ from p1); replace b0 := kept hb (block_lt (show w10.drew.cell? _ = _ from b0)) (show w10.drew.cell? _ = _ from b0); replace b1 := kept hb (block_lt (show w10.drew.cell? _ = _ from b1)) (show w10.drew.cell? _ = _ from b1); replace p := Lib.hid ((p.out.bel ((Below.refl _ _).drew)).bel hb); replace oo := Lib.hid ((oo.out.bel ((Below.refl _ _).drew)).bel hb); replace b := Lib.hid ((b.out.bel ((Below.refl _ _).drew)).bel hb); replace bb := Lib.hid (bb.out.drew.trans (hb.mono bb.out.drew.size)); clear hb ho tok0 _t; have tok1 : True := trivial)) | ((go_simp; go_at_call 27; have _t := tok1; (with_reducible refine (ds_ok (D := 3) hI.out (show 3 < 8 by omega) (by decide) hL3.out hN3.out _ _ _ p.out).mono ?_); rintro e w12 ⟨⟨au2, cu2, rfl, ho⟩, hb⟩; have szw12 := hb.size; have u2 := Lib.hid ho.row; replace p0 := kept hb (block_lt p0) p0; replace p1 := kept hb (block_lt p1) p1; replace b0 := kept hb (block_lt b0) b0; replace b1 := kept hb (block_lt b1) b1; replace p := Lib.hid (p.out.bel hb); replace oo := Lib.hid (oo.out.bel hb); replace b := Lib.hid (b.out.bel hb); replace u1 := Lib.hid (u1.out.bel hb); replace bb := Lib.hid (bb.out.trans (hb.mono bb.out.size)); clear hb ho tok1 _t; have tok2 : True := trivial)) | ((go_simp; go_at_call 29; have _t := tok2; (with_reducible refine (same_yes _ _ _ _ _ L3 _ u1.out u2.out (by omega)).mono ?_); rintro e w13 ⟨rfl, hb⟩; have szw13 := hb.size; replace p0 := kept hb (block_lt p0) p0; replace p1 := kept hb (block_lt p1) p1; replace b0 := kept hb (block_lt b0) b0; replace b1 := kept hb (block_lt b1) b1; replace p := Lib.hid (p.out.bel hb); replace oo := Lib.hid (oo.out.bel hb); replace b := Lib.hid (b.out.bel hb); replace u1 := Lib.hid (u1.out.bel hb); replace u2 := Lib.hid (u2.out.bel hb); replace bb := Lib.hid (bb.out.trans (hb.mono bb.out.size)); clear hb tok2 _t; have tok3 : True := trivial)) | ((go_simp; go_at_call 27; have _t := tok3; (with_reducible refine (ds_ok (D := 4) hM.out (show 4 < 8 by omega) (by decide) hm24.out.2 n4.out _ _ _ b.out).mono ?_); rintro e w14 ⟨⟨au3, cu3, rfl, ho⟩, hb⟩; have szw14 := hb.size; have u3 := Lib.hid ho.row; replace p0 := kept hb (block_lt p0) p0; replace p1 := kept hb (block_lt p1) p1; replace b0 := kept hb (block_lt b0) b0; replace b1 := kept hb (block_lt b1) b1; replace p := Lib.hid (p.out.bel hb); replace oo := Lib.hid (oo.out.bel hb); replace b := Lib.hid (b.out.bel hb); replace u1 := Lib.hid (u1.out.bel hb); replace u2 := Lib.hid (u2.out.bel hb); replace bb := Lib.hid (bb.out.trans (hb.mono bb.out.size)); clear hb ho tok3 _t; have tok4 : True := trivial)) | ((go_simp; go_at_call 27; have _t := tok4; (with_reducible refine (ds_ok (D := 6) hI.out (show 6 < 8 by omega) (by decide) hL6.out hN6.out _ _ _ p.out).mono ?_); rintro e w15 ⟨⟨au4, cu4, rfl, ho⟩, hb⟩; have szw15 := hb.size; have u4 := Lib.hid ho.row; replace p0 := kept hb (block_lt p0) p0; replace p1 := kept hb (block_lt p1) p1; replace b0 := kept hb (block_lt b0) b0; replace b1 := kept hb (block_lt b1) b1; replace p := Lib.hid (p.out.bel hb); replace oo := Lib.hid (oo.out.bel hb); replace b := Lib.hid (b.out.bel hb); replace u1 := Lib.hid (u1.out.bel hb); replace u2 := Lib.hid (u2.out.bel hb); replace u3 := Lib.hid (u3.out.bel hb); replace bb := Lib.hid (bb.out.trans (hb.mono bb.out.size)); clear hb ho tok4 _t; have tok5 : True := trivial)) | ((go_simp; go_at_call 29; have _t := tok5; (with_reducible refine (same_yes _ _ _ _ _ L6 _ u3.out u4.out (by omega)).mono ?_); rintro e w16 ⟨rfl, hb⟩; have szw16 := hb.size; replace p0 := kept hb (block_lt p0) p0; replace p1 := kept hb (block_lt p1) p1; replace b0 := kept hb (block_lt b0) b0; replace b1 := kept hb (block_lt b1) b1; replace p := Lib.hid (p.out.bel hb); replace oo := Lib.hid (oo.out.bel hb); replace b := Lib.hid (b.out.bel hb); replace u1 := Lib.hid (u1.out.bel hb); replace u2 := Lib.hid (u2.out.bel hb); replace u3 := Lib.hid (u3.out.bel hb); replace u4 := Lib.hid (u4.out.bel hb); replace bb := Lib.hid (bb.out.trans (hb.mono bb.out.size)); clear hb tok5 _t; have tok6 : True := trivial)))
  all_goals
    go_wp2_with fail
    go_ret
    exact ⟨rfl, bb.out⟩

set_option maxRecDepth 100000 in
theorem lifted (os : Os) (started : os.Started) (H : Type) (enc : TypeId × Value → H) :
    ReturnsInHanded {} Try.checked os 8 .any (Rows.fnDirMirrorSpec.pre6 enc Try.prog Try.f8 Rows.fnDirMirrorRow.domain false) (Rows.fnDirMirrorSpec.post enc Try.prog Try.f8 false true false false) := by
  refine returnsInHanded_of_change (C := Try.checked) own started (by kernel_rfl) Try.func8
    (ChangeSpec.witness6 (enc := enc) (C := Try.checked) false ⟨#[], #[.slice none 0 0], []⟩ 8 (by kernel_rfl) (by kernel_rfl) (by kernel_rfl) (by kernel_rfl)) ?_
  intro W base args ds gs before hval0 hW hcnd _
  have hval : ∀ (j : Nat) t v, Try.f8.params[j]? = some t → args[j]? = some v → Value.okWide Try.prog W .any base t v := hval0
  have hW' := hW
  obtain ⟨p, q, hA0, hV, rfl, hfz, hnd⟩ := hW
  have hA : DataW.TrodAll enc Try.prog W 0 (fun _ => true) true Try.f8.params.toList args.toList ds p := hA0
  rw [Try.params8] at hA hval
  obtain ⟨v0, vs0, d0, ds0, p0, q0, hargs, rfl, rfl, h0, r0⟩ := trodAll_cons hA
  obtain ⟨rfl, rfl, rfl⟩ := trodAll_nil r0
  obtain rfl : args = #[v0] := by cases args; simp_all
  obtain ⟨rfl, rfl⟩ := trodVars_none hV
  have k0 := h0
  have lt0 : ∀ x ∈ p0, x.block < W.heap.size := by obtain ⟨m, hm⟩ := k0; exact DataW.trod_lt m _ _ _ hm
  obtain ⟨a0, len0, cap0, z0, rfl, w0, l0, m0⟩ := open_code (hval 0 22 v0 rfl rfl) h0
  clear hA0 hval0
  refine (walk a0 len0 cap0 z0 W w0 l0 m0).mono fun e W' ⟨he, bel⟩ => ?_
  subst he
  exact ⟨_, rfl, _, _, _, [], _, [], hW', trodAll_mk1 (shut_bool Try.underlying4 _), (trodAll_cons_mk (Below.trod laidOut (by kernel_rfl) (of_decide_eq_true (by kernel_rfl)) k0 bel lt0) trodAll_mk0), rfl, bel.frame _, fun h => by cases h⟩

theorem closed : joinedFacts Try.prog 8 Try.f8 Rows.fnDirMirrorSpec Rows.fnDirMirrorRow = true := by
  simp only [joinedFacts, Bool.and_eq_true]
  repeat' apply And.intro
  all_goals first | with_reducible exact mayEnterOk | (with_reducible rw [liftsFinalOk]; kernel_rfl) | (with_reducible rw [makeOk]; kernel_rfl) | kernel_rfl

theorem over : Rows.fnDirMirrorRow.holds Try.pinned (OpenSpec.ofChange Rows.fnDirMirrorSpec) :=
  OpenClaim.holds_of_wide 8 Try.f8 rfl rfl rfl rfl rfl rfl rfl ⟨rfl, rfl, rfl, rfl, rfl⟩ rfl rfl rfl rfl rfl (by kernel_rfl) Try.func8 closed
    (of_decide_eq_true (by kernel_rfl)) (by unfold Func.isWrapper; first | (rw [if_pos (by decide +kernel)]; kernel_rfl) | (rw [if_neg (by decide +kernel)]; exact ⟨rfl, rfl⟩))
    (fun os started H enc _ => lifted os started H enc)

theorem proved : Rows.FnDirMirrorSaid := over
#print axioms proved
end Go.Proofs.Ytemmfnlnhekclaa.LFDirMirror

