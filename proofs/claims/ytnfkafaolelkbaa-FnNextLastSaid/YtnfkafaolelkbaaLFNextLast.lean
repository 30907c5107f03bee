/-
  For every slice of bytes the law FnNextLast answers true: the last image has no next one; nothing that was there is written; no condition.
-/
import Derived.Test.YtnfkafaolelkbaaO
import Derived.Test.YtnfkafaolelkbaaK
import Derived.Deep.RegionLaw
import Derived.Test.YtnfkafaolelkbaaBn
import Derived.Test.YtnfkafaolelkbaaBk
import Derived.Test.YtnfkafaolelkbaaEp
namespace Go.Proofs.Ytnfkafaolelkbaa.LFNextLast
open Go.ChangeShapes Go.WideShapes Go.ChangeAt Go.RowKit Go.Joins

set_option maxHeartbeats 2000000 in
set_option maxRecDepth 100000 in
theorem walk (a : Option Addr) (len cap : Nat) (zs : List Int) (w : World) (h : Bys w a len zs) (hl : len ≤ cap) (hm : cap ≤ 9223372036854775807) :
    Calls Try.prog 11 #[.slice a len cap] w fun e w' => e = .returned (.bool true) ∧ Below w.heap.size w w' := by
  by_cases hbig : 1048576 < len
  · clear h
    go_enter Try.func11, Try.ntmps11
    go_wp2_with fail
    go_ret
    exact ⟨rfl, Below.refl _ _⟩
  go_enter Try.func11, Try.ntmps11
  go_wp2_with fail
  refine (draw_DrawImageRank a len cap zs _ h hl hm).mono ?_
  rintro e w1 ⟨V, s, n, cg, xs, rfl, hR, hn, hb1⟩
  clear h hl hm
  have bb := Lib.hid hb1
  have p := Lib.hid hR
  clear hR hb1
  have hbx : Below w1.heap.size w1 (w1.alloc (.cells #[.int .i64 V, .slice s n cg] 30)) := (Below.refl _ _).alloc (Nat.le_refl _) _
  replace p := Lib.hid (p.out.bel hbx)
  replace bb := Lib.hid (bb.out.trans (hbx.mono bb.out.size))
  clear hbx
  have p0 : (w1.alloc (.cells #[.int .i64 V, .slice s n cg] 30)).cell? ⟨w1.heap.size, 0, none⟩ = some (.int .i64 V) := by simp
  have p1 : (w1.alloc (.cells #[.int .i64 V, .slice s n cg] 30)).cell? ⟨w1.heap.size, 1, none⟩ = some (.slice s n cg) := by simp
  rcases rko_ways (V := V) p.out.1 with h1 | ⟨W, k, rfl, hI, hct, h1, h2, h3, h4⟩
  case inl =>
    go_wp2_with fail
    refine (rk_ok h1 (by omega) _ _ _ p.out).mono ?_
    rintro e w2 ⟨rfl, hb⟩
    have szw2 : w1.heap.size + 1 ≤ w2.heap.size := by have := hb.size; simpa using this
    replace p0 := kept hb (block_lt p0) p0
    replace p1 := kept hb (block_lt p1) p1
    replace p := Lib.hid (p.out.bel hb)
    replace bb := Lib.hid (bb.out.trans (hb.mono bb.out.size))
    clear hb
    go_wp2_with fail
    refine (rk_sok h1 (by omega) _ _ _ p.out).mono ?_
    rintro e w3 ⟨rfl, hb⟩
    have szw3 := hb.size
    replace p0 := kept hb (block_lt p0) p0
    replace p1 := kept hb (block_lt p1) p1
    replace p := Lib.hid (p.out.bel hb)
    replace bb := Lib.hid (bb.out.trans (hb.mono bb.out.size))
    clear hb
    go_wp2_with fail
    go_ret
    exact ⟨rfl, bb.out⟩
  have hW6 := hI.w6
  have hW1 := hI.w1
  have hn1 := hI.l1
  have hn6 := hI.l6
  have lr : (rsL xs W n).length = n := rs_len _ _ _
  have lc : (csL xs n W).length = W := cs_len _ _ _
  have hsv := hI.sumsV
  have hcb := cnt_16 (ctdB_parts hct).2
  have hrs := Lib.hid (fun s c wx hx => rs_ok hI s c wx hx)
  have hcs := Lib.hid (fun s c wx hx => cs_ok hI s c wx hx)
  obtain ⟨R, hR0⟩ : ∃ R, rsL xs W n = R := ⟨_, rfl⟩
  obtain ⟨C, hC0⟩ : ∃ C, csL xs n W = C := ⟨_, rfl⟩
  rw [hR0] at lr hsv hct h2 h3 h4 hrs hcb
  rw [hC0] at lc hsv hct h2 h3 h4 hcs hcb
  obtain ⟨M, hM⟩ : ∃ M, cntS R C = M := ⟨_, rfl⟩
  have hsM : scO R C = M := (sco_yes hct).trans hM
  rw [hM] at hcb h3
  have hkM : Hid ((k : Int) < cntS R C) := Lib.hid (by rw [hM]; omega)
  have hk0 : ¬ (k : Int) < 0 := by omega
  have hn13 : n ≤ 13 := by omega
  have hW13 : W ≤ 13 := by omega
  have hiM : IntKind.i64.wrap (M - 1) = M - 1 := IntWalk.i64_in _ ⟨by omega, by omega⟩
  replace hsv := Lib.hid hsv
  replace hct := Lib.hid hct
  replace h1 := Lib.hid h1
  replace h2 := Lib.hid h2
  replace h4 := Lib.hid h4
  replace hI := Lib.hid hI
  replace hM := Lib.hid hM
  replace hsM := Lib.hid hsM
  replace hR0 := Lib.hid hR0
  replace hC0 := Lib.hid hC0
  replace lr := Lib.hid lr
  replace lc := Lib.hid lc
  go_wp2_with fail
  refine (rk_ok h1.out (by omega) _ _ _ p.out).mono ?_
  rintro e w4 ⟨rfl, hb⟩
  have szw4 : w1.heap.size + 1 ≤ w4.heap.size := by have := hb.size; simpa using this
  replace p0 := kept hb (block_lt p0) p0
  replace p1 := kept hb (block_lt p1) p1
  replace p := Lib.hid (p.out.bel hb)
  replace bb := Lib.hid (bb.out.trans (hb.mono bb.out.size))
  clear hb
  go_wp2_with fail
  refine (rk_sok h1.out (by omega) _ _ _ p.out).mono ?_
  rintro e w5 ⟨rfl, hb⟩
  have szw5 := hb.size
  replace p0 := kept hb (block_lt p0) p0
  replace p1 := kept hb (block_lt p1) p1
  replace p := Lib.hid (p.out.bel hb)
  replace bb := Lib.hid (bb.out.trans (hb.mono bb.out.size))
  clear hb
  by_cases hl : (k : Int) + 1 < M
  case pos =>
    have g1 : decide ((k : Int) < M - 1) = true := decide_eq_true (by omega)
    have h3b : Hid (((k + 1 : Nat) : Int) < cntS (rsL xs W n) (csL xs n W)) := Lib.hid (by rw [hR0.out, hC0.out, hM.out]; omega)
    have hctb : Hid (ctdB (rsL xs W n) (csL xs n W) = true) := Lib.hid (by rw [hR0.out, hC0.out]; exact hct.out)
    obtain ⟨L, hL⟩ : ∃ L, nthS (rsL xs W n) (csL xs n W) (k + 1) = L := ⟨_, rfl⟩
    replace hL := Lib.hid hL
    clear hl
    go_wp2_with fail
    refine (nx_ok hI.out hctb.out h1.out h3b.out hL.out _ _ _ p.out).mono ?_
    rintro e w6 ⟨⟨au, cu, rfl, ho⟩, hb⟩
    have u := Lib.hid ho.row
    have szw6 := hb.size
    replace p0 := kept hb (block_lt p0) p0
    replace p1 := kept hb (block_lt p1) p1
    replace p := Lib.hid (p.out.bel hb)
    replace bb := Lib.hid (bb.out.trans (hb.mono bb.out.size))
    clear hb
    clear ho
    have hbx : Below w6.heap.size w6 (w6.alloc (.cells #[.int .i64 W, .slice au n cu] 30)) := (Below.refl _ _).alloc (Nat.le_refl _) _
    replace p0 := kept hbx (block_lt p0) p0
    replace p1 := kept hbx (block_lt p1) p1
    replace p := Lib.hid (p.out.bel hbx)
    replace u := Lib.hid (u.out.bel hbx)
    replace bb := Lib.hid (bb.out.trans (hbx.mono bb.out.size))
    clear hbx
    have u0 : (w6.alloc (.cells #[.int .i64 W, .slice au n cu] 30)).cell? ⟨w6.heap.size, 0, none⟩ = some (.int .i64 W) := by simp
    have u1 : (w6.alloc (.cells #[.int .i64 W, .slice au n cu] 30)).cell? ⟨w6.heap.size, 1, none⟩ = some (.slice au n cu) := by simp
    go_upto_region 9 with fail
    obtain ⟨w7, hwn⟩ : ∃ w7, w6.alloc (.cells #[.int .i64 W, .slice au n cu] 30) = w7 := ⟨_, rfl⟩
    have szw7 : w6.heap.size + 1 ≤ w7.heap.size := by rw [← hwn]; simp
    rw [hwn] at p0 p1 u0 u1 p u bb
    (try rw [hwn])
    clear hwn
    have tok0 : True := trivial
    go_wp2_with fail
    go_region_law (first | ((go_simp; go_at_call 27; have _t := tok0; (with_reducible refine (hrs.out _ _ _ (p.out.bel ((Below.refl _ _).drew))).mono ?_); rintro e w8 ⟨⟨ax, cx, rfl, ho⟩, hb⟩; have szw8 := hb.size; have x := Lib.hid ho.row; replace p0 := kept hb (block_lt (show w7.drew.cell? _ = _ from p0)) (show w7.drew.cell? _ = _ from p0); replace p1 := kept hb (block_lt (show w7.drew.cell? _ = _ from p1)) (show w7.drew.cell? _ = _ from p1); replace u0 := kept hb (block_lt (show w7.drew.cell? _ = _ from u0)) (show w7.drew.cell? _ = _ from u0); replace u1 := kept hb (block_lt (show w7.drew.cell? _ = _ from u1)) (show w7.drew.cell? _ = _ from u1); replace p := Lib.hid ((p.out.bel ((Below.refl _ _).drew)).bel hb); replace u := Lib.hid ((u.out.bel ((Below.refl _ _).drew)).bel hb); replace bb := Lib.hid (bb.out.drew.trans (hb.mono bb.out.drew.size)); clear hb ho tok0 _t; have tok1 : True := trivial)) | ((go_simp; go_at_call 28; have _t := tok1; (with_reducible refine (hcs.out _ _ _ p.out).mono ?_); rintro e w9 ⟨⟨av, cv, rfl, ho⟩, hb⟩; have szw9 := hb.size; have v := Lib.hid ho.row; replace p0 := kept hb (block_lt p0) p0; replace p1 := kept hb (block_lt p1) p1; replace u0 := kept hb (block_lt u0) u0; replace u1 := kept hb (block_lt u1) u1; replace p := Lib.hid (p.out.bel hb); replace u := Lib.hid (u.out.bel hb); replace x := Lib.hid (x.out.bel hb); replace bb := Lib.hid (bb.out.trans (hb.mono bb.out.size)); clear hb ho tok1 _t; have tok2 : True := trivial)) | ((go_simp; go_at_call 21; have _t := tok2; (with_reducible refine (sc_ok hsM.out _ _ _ _ _ x.out v.out hn13 hW13).mono ?_); rintro e w10 ⟨rfl, hb⟩; have szw10 := hb.size; replace p0 := kept hb (block_lt p0) p0; replace p1 := kept hb (block_lt p1) p1; replace u0 := kept hb (block_lt u0) u0; replace u1 := kept hb (block_lt u1) u1; replace p := Lib.hid (p.out.bel hb); replace u := Lib.hid (u.out.bel hb); replace x := Lib.hid (x.out.bel hb); replace v := Lib.hid (v.out.bel hb); replace bb := Lib.hid (bb.out.trans (hb.mono bb.out.size)); clear hb tok2 _t; have tok3 : True := trivial)))
    all_goals
      go_wp2_with fail
      go_ret
      exact ⟨rfl, bb.out⟩
  have g1 : decide ((k : Int) < M - 1) = false := decide_eq_false (by omega)
  have h3b : Hid (nxO W xs = .no) := Lib.hid (nxo_last hI.out (by rw [hR0.out, hC0.out]; exact hct.out) h1.out (by rw [hR0.out, hC0.out, hM.out]; omega))
  clear hl
  go_wp2_with fail
  refine (nx_no h3b.out (by omega) _ _ _ p.out).mono ?_
  rintro e w11 ⟨⟨au, cu, rfl, ho⟩, hb⟩
  have u := Lib.hid ho.row
  have szw11 := hb.size
  replace p0 := kept hb (block_lt p0) p0
  replace p1 := kept hb (block_lt p1) p1
  replace p := Lib.hid (p.out.bel hb)
  replace bb := Lib.hid (bb.out.trans (hb.mono bb.out.size))
  clear hb
  clear ho
  have hbx : Below w11.heap.size w11 (w11.alloc (.cells #[.int .i64 0, .slice au 0 cu] 30)) := (Below.refl _ _).alloc (Nat.le_refl _) _
  replace p0 := kept hbx (block_lt p0) p0
  replace p1 := kept hbx (block_lt p1) p1
  replace p := Lib.hid (p.out.bel hbx)
  replace u := Lib.hid (u.out.bel hbx)
  replace bb := Lib.hid (bb.out.trans (hbx.mono bb.out.size))
  clear hbx
  have u0 : (w11.alloc (.cells #[.int .i64 0, .slice au 0 cu] 30)).cell? ⟨w11.heap.size, 0, none⟩ = some (.int .i64 0) := by simp
  have u1 : (w11.alloc (.cells #[.int .i64 0, .slice au 0 cu] 30)).cell? ⟨w11.heap.size, 1, none⟩ = some (.slice au 0 cu) := by simp
  go_upto_region 9 with fail
  obtain ⟨w12, hwn⟩ : ∃ w12, w11.alloc (.cells #[.int .i64 0, .slice au 0 cu] 30) = w12 := ⟨_, rfl⟩
  have szw12 : w11.heap.size + 1 ≤ w12.heap.size := by rw [← hwn]; simp
  rw [hwn] at p0 p1 u0 u1 p u bb
  (try rw [hwn])
  clear hwn
  have tok0 : True := trivial
  go_wp2_with fail
  go_region_law (first | ((go_simp; go_at_call 27; have _t := tok0; (with_reducible refine (hrs.out _ _ _ (p.out.bel ((Below.refl _ _).drew))).mono ?_); rintro e w13 ⟨⟨ax, cx, rfl, ho⟩, hb⟩; have szw13 := hb.size; have x := Lib.hid ho.row; replace p0 := kept hb (block_lt (show w12.drew.cell? _ = _ from p0)) (show w12.drew.cell? _ = _ from p0); replace p1 := kept hb (block_lt (show w12.drew.cell? _ = _ from p1)) (show w12.drew.cell? _ = _ from p1); replace u0 := kept hb (block_lt (show w12.drew.cell? _ = _ from u0)) (show w12.drew.cell? _ = _ from u0); replace u1 := kept hb (block_lt (show w12.drew.cell? _ = _ from u1)) (show w12.drew.cell? _ = _ from u1); replace p := Lib.hid ((p.out.bel ((Below.refl _ _).drew)).bel hb); replace u := Lib.hid ((u.out.bel ((Below.refl _ _).drew)).bel hb); replace bb := Lib.hid (bb.out.drew.trans (hb.mono bb.out.drew.size)); clear hb ho tok0 _t; have tok1 : True := trivial)) | ((go_simp; go_at_call 28; have _t := tok1; (with_reducible refine (hcs.out _ _ _ p.out).mono ?_); rintro e w14 ⟨⟨av, cv, rfl, ho⟩, hb⟩; have szw14 := hb.size; have v := Lib.hid ho.row; replace p0 := kept hb (block_lt p0) p0; replace p1 := kept hb (block_lt p1) p1; replace u0 := kept hb (block_lt u0) u0; replace u1 := kept hb (block_lt u1) u1; replace p := Lib.hid (p.out.bel hb); replace u := Lib.hid (u.out.bel hb); replace x := Lib.hid (x.out.bel hb); replace bb := Lib.hid (bb.out.trans (hb.mono bb.out.size)); clear hb ho tok1 _t; have tok2 : True := trivial)) | ((go_simp; go_at_call 21; have _t := tok2; (with_reducible refine (sc_ok hsM.out _ _ _ _ _ x.out v.out hn13 hW13).mono ?_); rintro e w15 ⟨rfl, hb⟩; have szw15 := hb.size; replace p0 := kept hb (block_lt p0) p0; replace p1 := kept hb (block_lt p1) p1; replace u0 := kept hb (block_lt u0) u0; replace u1 := kept hb (block_lt u1) u1; replace p := Lib.hid (p.out.bel hb); replace u := Lib.hid (u.out.bel hb); replace x := Lib.hid (x.out.bel hb); replace v := Lib.hid (v.out.bel hb); replace bb := Lib.hid (bb.out.trans (hb.mono bb.out.size)); clear hb tok2 _t; have tok3 : True := trivial)))
  all_goals
    go_wp2_with fail
    go_ret
    exact ⟨rfl, bb.out⟩

set_option maxRecDepth 100000 in
theorem lifted (os : Os) (started : os.Started) (H : Type) (enc : TypeId × Value → H) :
    ReturnsInHanded {} Try.checked os 11 .any (Rows.fnNextLastSpec.pre6 enc Try.prog Try.f11 Rows.fnNextLastRow.domain false) (Rows.fnNextLastSpec.post enc Try.prog Try.f11 false true false false) := by
  refine returnsInHanded_of_change (C := Try.checked) own started (by kernel_rfl) Try.func11
    (ChangeSpec.witness6 (enc := enc) (C := Try.checked) false ⟨#[], #[.slice none 0 0], []⟩ 8 (by kernel_rfl) (by kernel_rfl) (by kernel_rfl) (by kernel_rfl)) ?_
  intro W base args ds gs before hval0 hW hcnd _
  have hval : ∀ (j : Nat) t v, Try.f11.params[j]? = some t → args[j]? = some v → Value.okWide Try.prog W .any base t v := hval0
  have hW' := hW
  obtain ⟨p, q, hA0, hV, rfl, hfz, hnd⟩ := hW
  have hA : DataW.TrodAll enc Try.prog W 0 (fun _ => true) true Try.f11.params.toList args.toList ds p := hA0
  rw [Try.params11] at hA hval
  obtain ⟨v0, vs0, d0, ds0, p0, q0, hargs, rfl, rfl, h0, r0⟩ := trodAll_cons hA
  obtain ⟨rfl, rfl, rfl⟩ := trodAll_nil r0
  obtain rfl : args = #[v0] := by cases args; simp_all
  obtain ⟨rfl, rfl⟩ := trodVars_none hV
  have k0 := h0
  have lt0 : ∀ x ∈ p0, x.block < W.heap.size := by obtain ⟨m, hm⟩ := k0; exact DataW.trod_lt m _ _ _ hm
  obtain ⟨a0, len0, cap0, z0, rfl, w0, l0, m0⟩ := open_code (hval 0 22 v0 rfl rfl) h0
  clear hA0 hval0
  refine (walk a0 len0 cap0 z0 W w0 l0 m0).mono fun e W' ⟨he, bel⟩ => ?_
  subst he
  exact ⟨_, rfl, _, _, _, [], _, [], hW', trodAll_mk1 (shut_bool Try.underlying4 _), (trodAll_cons_mk (Below.trod laidOut (by kernel_rfl) (of_decide_eq_true (by kernel_rfl)) k0 bel lt0) trodAll_mk0), rfl, bel.frame _, fun h => by cases h⟩

theorem closed : joinedFacts Try.prog 11 Try.f11 Rows.fnNextLastSpec Rows.fnNextLastRow = true := by
  simp only [joinedFacts, Bool.and_eq_true]
  repeat' apply And.intro
  all_goals first | with_reducible exact mayEnterOk | (with_reducible rw [liftsFinalOk]; kernel_rfl) | (with_reducible rw [makeOk]; kernel_rfl) | kernel_rfl

theorem over : Rows.fnNextLastRow.holds Try.pinned (OpenSpec.ofChange Rows.fnNextLastSpec) :=
  OpenClaim.holds_of_wide 11 Try.f11 rfl rfl rfl rfl rfl rfl rfl ⟨rfl, rfl, rfl, rfl, rfl⟩ rfl rfl rfl rfl rfl (by kernel_rfl) Try.func11 closed
    (of_decide_eq_true (by kernel_rfl)) (by unfold Func.isWrapper; first | (rw [if_pos (by decide +kernel)]; kernel_rfl) | (rw [if_neg (by decide +kernel)]; exact ⟨rfl, rfl⟩))
    (fun os started H enc _ => lifted os started H enc)

theorem proved : Rows.FnNextLastSaid := over
#print axioms proved
end Go.Proofs.Ytnfkafaolelkbaa.LFNextLast

