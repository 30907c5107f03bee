/-
  For every slice of bytes the law FnCountSmall answers true: as many images have its sums as are found one by one; nothing that was there is written; no condition.
-/
import Derived.Test.YtmfncheimmcobaaO
import Derived.Test.YtmfncheimmcobaaK
import Derived.Deep.RegionLaw
import Derived.Test.YtmfncheimmcobaaMn
import Derived.Test.YtmfncheimmcobaaNh
import Derived.Test.YtmfncheimmcobaaMi
import Derived.Test.YtmfncheimmcobaaNs
import Derived.Test.YtmfncheimmcobaaYa
import Derived.Test.YtmfncheimmcobaaJg
import Derived.Test.YtmfncheimmcobaaEp
namespace Go.Proofs.Ytmfncheimmcobaa.LFCountSmall
open Go.ChangeShapes Go.WideShapes Go.ChangeAt Go.RowKit Go.Joins

set_option maxHeartbeats 2000000 in
set_option maxRecDepth 100000 in
theorem walk (a : Option Addr) (len cap : Nat) (zs : List Int) (w : World) (h : Bys w a len zs) (hl : len ≤ cap) (hm : cap ≤ 9223372036854775807) :
    Calls Try.prog 5 #[.slice a len cap] w fun e w' => e = .returned (.bool true) ∧ Below w.heap.size w w' := by
  by_cases hbig : 1048576 < len
  · clear h
    go_enter Try.func5, Try.ntmps5
    go_wp2_with fail
    go_ret
    exact ⟨rfl, Below.refl _ _⟩
  go_enter Try.func5, Try.ntmps5
  go_wp2_with fail
  refine (draw_DrawImageSteps a len cap zs _ h hl hm).mono ?_
  rintro e w1 ⟨V, s, n, cg, xs, rfl, hR, hn, hb1⟩
  clear h hl hm
  have bb := Lib.hid hb1
  have p := Lib.hid hR
  clear hR hb1
  have hbx : Below w1.heap.size w1 (w1.alloc (.cells #[.int .i64 V, .slice s n cg] 32)) := (Below.refl _ _).alloc (Nat.le_refl _) _
  replace p := Lib.hid (p.out.bel hbx)
  replace bb := Lib.hid (bb.out.trans (hbx.mono bb.out.size))
  clear hbx
  have p0 : (w1.alloc (.cells #[.int .i64 V, .slice s n cg] 32)).cell? ⟨w1.heap.size, 0, none⟩ = some (.int .i64 V) := by simp
  have p1 : (w1.alloc (.cells #[.int .i64 V, .slice s n cg] 32)).cell? ⟨w1.heap.size, 1, none⟩ = some (.slice s n cg) := by simp
  by_cases hv : validB V xs = true
  case neg =>
    have hv : validB V xs = false := by simpa using hv
    have hmo : manyOf V xs = -1 := if_neg (by rw [hv]; simp)
    replace hmo := Lib.hid hmo
    go_wp2_with fail
    refine (many_impl V s n cg xs _ p.out (by omega)).mono ?_
    rintro e w2 ⟨rfl, hb⟩
    have szw2 : w1.heap.size + 1 ≤ w2.heap.size := by have := hb.size; simpa using this
    replace p0 := kept hb (block_lt p0) p0
    replace p1 := kept hb (block_lt p1) p1
    replace p := Lib.hid (p.out.bel hb)
    replace bb := Lib.hid (bb.out.trans (hb.mono bb.out.size))
    clear hb
    rw [hmo.out]
    go_wp2_with fail
    refine (many_spec V s n cg xs _ p.out (by omega)).mono ?_
    rintro e w3 ⟨rfl, hb⟩
    have szw3 := hb.size
    replace p0 := kept hb (block_lt p0) p0
    replace p1 := kept hb (block_lt p1) p1
    replace p := Lib.hid (p.out.bel hb)
    replace bb := Lib.hid (bb.out.trans (hb.mono bb.out.size))
    clear hb
    rw [hmo.out]
    go_wp2_with fail
    go_ret
    exact ⟨rfl, bb.out⟩
  have hI0 := validB_W hv
  obtain ⟨W, rfl⟩ := Int.eq_ofNat_of_zero_le (by omega : 0 ≤ V)
  have hI : Im W n xs := Im.of hv p.out.1
  have hW6 := hI.w6
  have hW1 := hI.w1
  have hn1 := hI.l1
  have hn6 := hI.l6
  obtain ⟨M, hM⟩ : ∃ M, manyI W xs n = M := ⟨_, rfl⟩
  have hmo : manyOf W xs = M := by rw [hI.many]; exact hM
  have hm36 := many_36 xs hW6 hn6
  rw [hM] at hm36
  have hM0 : ¬ M < 0 := by omega
  obtain ⟨N, hN⟩ : ∃ N, n * W = N := ⟨_, rfl⟩
  have ek : (n : Int) * (W : Int) = (N : Int) := by rw [← hN, Int.natCast_mul]
  have hN36 : N ≤ 36 := by rw [← hN]; exact Nat.mul_le_mul hn6 hW6
  have ewN : wrap64 (N : Int) = (N : Int) := IntWalk.wrap64_in _ ⟨by omega, by omega⟩
  have ewN2 : IntKind.i64.wrap (N : Int) = (N : Int) := IntWalk.i64_in _ ⟨by omega, by omega⟩
  replace hM := Lib.hid hM
  replace hmo := Lib.hid hmo
  replace hI := Lib.hid hI
  replace hN := Lib.hid hN
  clear hv hI0
  go_wp2_with fail
  refine (many_impl W s n cg xs _ p.out (by omega)).mono ?_
  rintro e w4 ⟨rfl, hb⟩
  have szw4 : w1.heap.size + 1 ≤ w4.heap.size := by have := hb.size; simpa using this
  replace p0 := kept hb (block_lt p0) p0
  replace p1 := kept hb (block_lt p1) p1
  replace p := Lib.hid (p.out.bel hb)
  replace bb := Lib.hid (bb.out.trans (hb.mono bb.out.size))
  clear hb
  rw [hmo.out]
  go_wp2_with fail
  refine (many_spec W s n cg xs _ p.out (by omega)).mono ?_
  rintro e w5 ⟨rfl, hb⟩
  have szw5 := hb.size
  replace p0 := kept hb (block_lt p0) p0
  replace p1 := kept hb (block_lt p1) p1
  replace p := Lib.hid (p.out.bel hb)
  replace bb := Lib.hid (bb.out.trans (hb.mono bb.out.size))
  clear hb
  rw [hmo.out]
  by_cases h9 : 9 < N
  case pos =>
    go_wp2_with fail
    go_ret
    exact ⟨rfl, bb.out⟩
  have ho := cnt_small hI.out
  obtain ⟨ls, hls⟩ : ∃ l, (smallL xs W n (pw (n * W)).toNat).length = l := ⟨_, rfl⟩
  have hl512 : ls ≤ 512 := by
    have h1 := small_le xs W n (pw (n * W)).toNat
    rw [hls] at h1
    have h2 := pw_le (n * W) 9 (by have := hN.out; omega)
    have h3 : pw 9 = 512 := by decide
    omega
  rw [hls] at ho
  have hsc : scO (rsL xs W n) (csL xs n W) = (ls : Int) := by
    rw [sco_yes (ctdB_of hI.out.sumsV (by rw [rs_len, cs_len]; have := hN.out; omega)), ho]
  have hE2 : ((ls : Int) == (ls : Int)) = true := by simp
  have hsl := Lib.hid (fun wx hx => small_any_laws W s n cg xs wx hx hI.out (by have := hN.out; omega))
  rw [hls] at hsl
  replace hls := Lib.hid hls
  replace hsc := Lib.hid hsc
  clear ho
  have tok0 : True := trivial
  go_wp2_with fail
  go_region_law (first | ((go_simp; go_at_call 25; have _t := tok0; (with_reducible refine (rs_ok hI.out _ _ _ (p.out.bel ((Below.refl _ _).drew))).mono ?_); rintro e w6 ⟨⟨ax, cx, rfl, ho⟩, hb⟩; have szw6 := hb.size; have x := Lib.hid ho.row; replace p0 := kept hb (block_lt (show w5.drew.cell? _ = _ from p0)) (show w5.drew.cell? _ = _ from p0); replace p1 := kept hb (block_lt (show w5.drew.cell? _ = _ from p1)) (show w5.drew.cell? _ = _ from p1); replace p := Lib.hid ((p.out.bel ((Below.refl _ _).drew)).bel hb); replace bb := Lib.hid (bb.out.drew.trans (hb.mono bb.out.drew.size)); clear hb ho tok0 _t; have tok1 : True := trivial)) | ((go_simp; go_at_call 26; have _t := tok1; (with_reducible refine (cs_ok hI.out _ _ _ p.out).mono ?_); rintro e w7 ⟨⟨av, cv, rfl, ho⟩, hb⟩; have szw7 := hb.size; have v := Lib.hid ho.row; replace p0 := kept hb (block_lt p0) p0; replace p1 := kept hb (block_lt p1) p1; replace p := Lib.hid (p.out.bel hb); replace x := Lib.hid (x.out.bel hb); replace bb := Lib.hid (bb.out.trans (hb.mono bb.out.size)); clear hb ho tok1 _t; have tok2 : True := trivial)) | ((go_simp; go_at_call 19; have _t := tok2; (with_reducible refine (sc_ok hsc.out _ _ _ _ _ x.out v.out (by omega) (by omega)).mono ?_); rintro e w8 ⟨rfl, hb⟩; have szw8 := hb.size; replace p0 := kept hb (block_lt p0) p0; replace p1 := kept hb (block_lt p1) p1; replace p := Lib.hid (p.out.bel hb); replace x := Lib.hid (x.out.bel hb); replace v := Lib.hid (v.out.bel hb); replace bb := Lib.hid (bb.out.trans (hb.mono bb.out.size)); clear hb tok2 _t; have tok3 : True := trivial)) | ((go_simp; go_at_call 27; have _t := tok3; (with_reducible refine (hsl.out _ p.out).mono ?_); rintro e w9 ⟨⟨gl, cl, rfl, ho⟩, hb⟩; have szw9 := hb.size; have _ho := True.intro; replace p0 := kept hb (block_lt p0) p0; replace p1 := kept hb (block_lt p1) p1; replace p := Lib.hid (p.out.bel hb); replace x := Lib.hid (x.out.bel hb); replace v := Lib.hid (v.out.bel hb); replace bb := Lib.hid (bb.out.trans (hb.mono bb.out.size)); clear hb ho tok3 _t; have tok4 : True := trivial)))
  all_goals
    go_wp2_with fail
    go_ret
    exact ⟨rfl, bb.out⟩

set_option maxRecDepth 100000 in
theorem lifted (os : Os) (started : os.Started) (H : Type) (enc : TypeId × Value → H) :
    ReturnsInHanded {} Try.checked os 5 .any (Rows.fnCountSmallSpec.pre6 enc Try.prog Try.f5 Rows.fnCountSmallRow.domain false) (Rows.fnCountSmallSpec.post enc Try.prog Try.f5 false true false false) := by
  refine returnsInHanded_of_change (C := Try.checked) own started (by kernel_rfl) Try.func5
    (ChangeSpec.witness6 (enc := enc) (C := Try.checked) false ⟨#[], #[.slice none 0 0], []⟩ 8 (by kernel_rfl) (by kernel_rfl) (by kernel_rfl) (by kernel_rfl)) ?_
  intro W base args ds gs before hval0 hW hcnd _
  have hval : ∀ (j : Nat) t v, Try.f5.params[j]? = some t → args[j]? = some v → Value.okWide Try.prog W .any base t v := hval0
  have hW' := hW
  obtain ⟨p, q, hA0, hV, rfl, hfz, hnd⟩ := hW
  have hA : DataW.TrodAll enc Try.prog W 0 (fun _ => true) true Try.f5.params.toList args.toList ds p := hA0
  rw [Try.params5] at hA hval
  obtain ⟨v0, vs0, d0, ds0, p0, q0, hargs, rfl, rfl, h0, r0⟩ := trodAll_cons hA
  obtain ⟨rfl, rfl, rfl⟩ := trodAll_nil r0
  obtain rfl : args = #[v0] := by cases args; simp_all
  obtain ⟨rfl, rfl⟩ := trodVars_none hV
  have k0 := h0
  have lt0 : ∀ x ∈ p0, x.block < W.heap.size := by obtain ⟨m, hm⟩ := k0; exact DataW.trod_lt m _ _ _ hm
  obtain ⟨a0, len0, cap0, z0, rfl, w0, l0, m0⟩ := open_code (hval 0 22 v0 rfl rfl) h0
  clear hA0 hval0
  refine (walk a0 len0 cap0 z0 W w0 l0 m0).mono fun e W' ⟨he, bel⟩ => ?_
  subst he
  exact ⟨_, rfl, _, _, _, [], _, [], hW', trodAll_mk1 (shut_bool Try.underlying4 _), (trodAll_cons_mk (Below.trod laidOut (by kernel_rfl) (of_decide_eq_true (by kernel_rfl)) k0 bel lt0) trodAll_mk0), rfl, bel.frame _, fun h => by cases h⟩

theorem closed : joinedFacts Try.prog 5 Try.f5 Rows.fnCountSmallSpec Rows.fnCountSmallRow = true := by
  simp only [joinedFacts, Bool.and_eq_true]
  repeat' apply And.intro
  all_goals first | with_reducible exact mayEnterOk | (with_reducible rw [liftsFinalOk]; kernel_rfl) | (with_reducible rw [makeOk]; kernel_rfl) | kernel_rfl

theorem over : Rows.fnCountSmallRow.holds Try.pinned (OpenSpec.ofChange Rows.fnCountSmallSpec) :=
  OpenClaim.holds_of_wide 5 Try.f5 rfl rfl rfl rfl rfl rfl rfl ⟨rfl, rfl, rfl, rfl, rfl⟩ rfl rfl rfl rfl rfl (by kernel_rfl) Try.func5 closed
    (of_decide_eq_true (by kernel_rfl)) (by unfold Func.isWrapper; first | (rw [if_pos (by decide +kernel)]; kernel_rfl) | (rw [if_neg (by decide +kernel)]; exact ⟨rfl, rfl⟩))
    (fun os started H enc _ => lifted os started H enc)

theorem proved : Rows.FnCountSmallSaid := over
#print axioms proved
end Go.Proofs.Ytmfncheimmcobaa.LFCountSmall

