/-
  For every slice of bytes the law FnRankOther answers true: other cells have the opposite order; nothing that was there is written; no condition.
-/
import Derived.Test.YtnfkafaolelkbaaO
import Derived.Test.YtnfkafaolelkbaaK
import Derived.Deep.RegionLaw
import Derived.Test.YtnfkafaolelkbaaBn
import Derived.Test.YtnfkafaolelkbaaBk
import Derived.Test.YtnfkafaolelkbaaEp
namespace Go.Proofs.Ytnfkafaolelkbaa.LFRankOther
open Go.ChangeShapes Go.WideShapes Go.ChangeAt Go.RowKit Go.Joins

theorem held4_2 {V W W' : World} {p0 p1 p2 p3 : Addr} {u0 u1 u2 u3 : Value} {a0 : Option Addr} {n0 : Nat} {x0 : List Int} {a1 : Option Addr} {n1 : Nat} {x1 : List Int} (h : W.cell? p0 = some u0 ∧ W.cell? p1 = some u1 ∧ W.cell? p2 = some u2 ∧ W.cell? p3 = some u3 ∧ Row W a0 n0 x0 ∧ Row W a1 n1 x1 ∧ Below V.heap.size V W) (hb : Below W.heap.size W W') : W'.cell? p0 = some u0 ∧ W'.cell? p1 = some u1 ∧ W'.cell? p2 = some u2 ∧ W'.cell? p3 = some u3 ∧ Row W' a0 n0 x0 ∧ Row W' a1 n1 x1 ∧ Below V.heap.size V W' := by
  obtain ⟨h0, h1, h2, h3, r0, r1, b⟩ := h
  exact ⟨kept hb (block_lt h0) h0, kept hb (block_lt h1) h1, kept hb (block_lt h2) h2, kept hb (block_lt h3) h3, r0.bel hb, r1.bel hb, b.trans (hb.mono b.size)⟩

set_option maxHeartbeats 8000000 in
set_option maxRecDepth 100000 in
theorem walk (a : Option Addr) (len cap : Nat) (zs : List Int) (w : World) (h : Bys w a len zs) (hl : len ≤ cap) (hm : cap ≤ 9223372036854775807) :
    Calls Try.prog 12 #[.slice a len cap] w fun e w' => e = .returned (.bool true) ∧ Below w.heap.size w w' := by
  by_cases hbig : 1048576 < len
  · clear h
    go_enter Try.func12, Try.ntmps12
    go_wp2_with fail
    go_ret
    exact ⟨rfl, Below.refl _ _⟩
  go_enter Try.func12, Try.ntmps12
  go_wp2_with fail
  refine (draw_DrawImageRank a len cap zs _ h hl hm).mono ?_
  rintro e w1 ⟨V, s, n, cg, xs, rfl, hR, hn, hb1⟩
  clear h hl hm
  have bb := Lib.hid hb1
  have p := Lib.hid hR
  clear hR hb1
  have hbx : Below w1.heap.size w1 (w1.alloc (.cells #[.int .i64 V, .slice s n cg] 30)) := (Below.refl _ _).alloc (Nat.le_refl _) _
  replace p := Lib.hid (p.out.bel hbx)
  replace bb := Lib.hid (bb.out.trans (hbx.mono bb.out.size))
  clear hbx
  have p0 : (w1.alloc (.cells #[.int .i64 V, .slice s n cg] 30)).cell? ⟨w1.heap.size, 0, none⟩ = some (.int .i64 V) := by simp
  have p1 : (w1.alloc (.cells #[.int .i64 V, .slice s n cg] 30)).cell? ⟨w1.heap.size, 1, none⟩ = some (.slice s n cg) := by simp
  rcases rko_ways (V := V) p.out.1 with h1 | ⟨W, k, rfl, hI, hct, h1, h2, h3, h4⟩
  case inl =>
    go_wp2_with fail
    refine (rk_ok h1 (by omega) _ _ _ p.out).mono ?_
    rintro e w2 ⟨rfl, hb⟩
    have szw2 : w1.heap.size + 1 ≤ w2.heap.size := by have := hb.size; simpa using this
    replace p0 := kept hb (block_lt p0) p0
    replace p1 := kept hb (block_lt p1) p1
    replace p := Lib.hid (p.out.bel hb)
    replace bb := Lib.hid (bb.out.trans (hb.mono bb.out.size))
    clear hb
    go_wp2_with fail
    refine (rk_sok h1 (by omega) _ _ _ p.out).mono ?_
    rintro e w3 ⟨rfl, hb⟩
    have szw3 := hb.size
    replace p0 := kept hb (block_lt p0) p0
    replace p1 := kept hb (block_lt p1) p1
    replace p := Lib.hid (p.out.bel hb)
    replace bb := Lib.hid (bb.out.trans (hb.mono bb.out.size))
    clear hb
    go_wp2_with fail
    go_ret
    exact ⟨rfl, bb.out⟩
  have hW6 := hI.w6
  have hW1 := hI.w1
  have hn1 := hI.l1
  have hn6 := hI.l6
  have lr : (rsL xs W n).length = n := rs_len _ _ _
  have lc : (csL xs n W).length = W := cs_len _ _ _
  have hsv := hI.sumsV
  have hcb := cnt_16 (ctdB_parts hct).2
  have hrs := Lib.hid (fun s c wx hx => rs_ok hI s c wx hx)
  have hcs := Lib.hid (fun s c wx hx => cs_ok hI s c wx hx)
  obtain ⟨R, hR0⟩ : ∃ R, rsL xs W n = R := ⟨_, rfl⟩
  obtain ⟨C, hC0⟩ : ∃ C, csL xs n W = C := ⟨_, rfl⟩
  rw [hR0] at lr hsv hct h2 h3 h4 hrs hcb
  rw [hC0] at lc hsv hct h2 h3 h4 hcs hcb
  obtain ⟨M, hM⟩ : ∃ M, cntS R C = M := ⟨_, rfl⟩
  have hsM : scO R C = M := (sco_yes hct).trans hM
  rw [hM] at hcb h3
  have hkM : Hid ((k : Int) < cntS R C) := Lib.hid (by rw [hM]; omega)
  have hk0 : ¬ (k : Int) < 0 := by omega
  have hn13 : n ≤ 13 := by omega
  have hW13 : W ≤ 13 := by omega
  have hIo := hI.oth
  have hall := im_alls hI
  rw [hR0, hC0] at hall
  obtain ⟨_, ho2⟩ := rnk_oth hsv hall
  rw [lc, lr, h2, hM] at ho2
  have hro : rkO W (othL xs W n) = M - 1 - (k : Int) := by
    have h16 : n * W ≤ 16 := by have := (ctdB_parts hct).2; rwa [lr, lc] at this
    have hf := oth_fit hI lr lc hR0 hC0
    rw [rko_im hIo h16, hf.1, hf.2]; omega
  obtain ⟨O, hO⟩ : ∃ O, othL xs W n = O := ⟨_, rfl⟩
  rw [hO] at hIo hro
  have i1 : IntKind.i64.wrap ((k : Int) + (M - 1 - (k : Int))) = M - 1 := by rw [show (k : Int) + (M - 1 - (k : Int)) = M - 1 by omega]; exact IntWalk.i64_in _ ⟨by omega, by omega⟩
  have i1b : wrap64 ((k : Int) + (M - 1 - (k : Int))) = M - 1 := by rw [show (k : Int) + (M - 1 - (k : Int)) = M - 1 by omega]; exact IntWalk.wrap64_in _ ⟨by omega, by omega⟩
  have i2 : IntKind.i64.wrap (M - 1) = M - 1 := IntWalk.i64_in _ ⟨by omega, by omega⟩
  have hkk : ((M - 1) == (M - 1)) = true := by simp
  have hkk2 : ((k : Int) + (M - 1 - (k : Int)) == (M - 1)) = true := by simp; omega
  replace hO := Lib.hid hO
  replace hIo := Lib.hid hIo
  replace hro := Lib.hid hro
  clear hall ho2
  replace hsv := Lib.hid hsv
  replace hct := Lib.hid hct
  replace h1 := Lib.hid h1
  replace h2 := Lib.hid h2
  replace h4 := Lib.hid h4
  replace hI := Lib.hid hI
  replace hM := Lib.hid hM
  replace hsM := Lib.hid hsM
  replace hR0 := Lib.hid hR0
  replace hC0 := Lib.hid hC0
  replace lr := Lib.hid lr
  replace lc := Lib.hid lc
  go_wp2_with fail
  refine (rk_ok h1.out (by omega) _ _ _ p.out).mono ?_
  rintro e w4 ⟨rfl, hb⟩
  have szw4 : w1.heap.size + 1 ≤ w4.heap.size := by have := hb.size; simpa using this
  replace p0 := kept hb (block_lt p0) p0
  replace p1 := kept hb (block_lt p1) p1
  replace p := Lib.hid (p.out.bel hb)
  replace bb := Lib.hid (bb.out.trans (hb.mono bb.out.size))
  clear hb
  go_wp2_with fail
  refine (rk_sok h1.out (by omega) _ _ _ p.out).mono ?_
  rintro e w5 ⟨rfl, hb⟩
  have szw5 := hb.size
  replace p0 := kept hb (block_lt p0) p0
  replace p1 := kept hb (block_lt p1) p1
  replace p := Lib.hid (p.out.bel hb)
  replace bb := Lib.hid (bb.out.trans (hb.mono bb.out.size))
  clear hb
  go_wp2_with fail
  refine ((hO.out ▸ other_ok hI.out _ _ _ p.out)).mono ?_
  rintro e w6 ⟨⟨ao, co, rfl, ho⟩, hb⟩
  have o := Lib.hid ho.row
  have szw6 := hb.size
  replace p0 := kept hb (block_lt p0) p0
  replace p1 := kept hb (block_lt p1) p1
  replace p := Lib.hid (p.out.bel hb)
  replace bb := Lib.hid (bb.out.trans (hb.mono bb.out.size))
  clear hb
  clear ho
  have hbx : Below w6.heap.size w6 (w6.alloc (.cells #[.int .i64 W, .slice ao n co] 30)) := (Below.refl _ _).alloc (Nat.le_refl _) _
  replace p0 := kept hbx (block_lt p0) p0
  replace p1 := kept hbx (block_lt p1) p1
  replace p := Lib.hid (p.out.bel hbx)
  replace o := Lib.hid (o.out.bel hbx)
  replace bb := Lib.hid (bb.out.trans (hbx.mono bb.out.size))
  clear hbx
  have o0 : (w6.alloc (.cells #[.int .i64 W, .slice ao n co] 30)).cell? ⟨w6.heap.size, 0, none⟩ = some (.int .i64 W) := by simp
  have o1 : (w6.alloc (.cells #[.int .i64 W, .slice ao n co] 30)).cell? ⟨w6.heap.size, 1, none⟩ = some (.slice ao n co) := by simp
  go_upto_region 9 with fail
  obtain ⟨w7, hwn⟩ : ∃ w7, w6.alloc (.cells #[.int .i64 W, .slice ao n co] 30) = w7 := ⟨_, rfl⟩
  have szw7 : w6.heap.size + 1 ≤ w7.heap.size := by rw [← hwn]; simp
  rw [hwn] at p0 p1 o0 o1 p o bb
  (try rw [hwn])
  clear hwn
  go_wp2_with fail
  have p_ := p.out
  have o_ := o.out
  have tok0 : True := trivial
  go_region_held3 (fun W' => W'.cell? ⟨w1.heap.size, 0, none⟩ = some (.int .i64 W) ∧ W'.cell? ⟨w1.heap.size, 1, none⟩ = some (.slice s n cg) ∧ W'.cell? ⟨w6.heap.size, 0, none⟩ = some (.int .i64 W) ∧ W'.cell? ⟨w6.heap.size, 1, none⟩ = some (.slice ao n co) ∧ Row W' s n xs ∧ Row W' ao n O ∧ Below w7.heap.size w7 W')
    (first | exact held4_2 ⟨p0, p1, o0, o1, p_, o_, Below.refl _ _⟩ ((Below.refl _ _).drew) | (refine held4_2 ?_ (by assumption); assumption))
    (first | (go_at_call 25; have _t := tok0; have hS := ‹_ ∧ _ ∧ _ ∧ _ ∧ Row _ _ _ _ ∧ Row _ _ _ _ ∧ Below _ _ _›; refine (rk_ok hro.out (by omega) _ _ _ (hS.2.2.2.2.2.1)).mono ?_; rintro e w8 ⟨rfl, hb⟩; clear hS tok0 _t; have tok1 : True := trivial) | (go_at_call 27; have _t := tok1; have hS := ‹_ ∧ _ ∧ _ ∧ _ ∧ Row _ _ _ _ ∧ Row _ _ _ _ ∧ Below _ _ _›; refine (hrs.out _ _ _ (hS.2.2.2.2.1)).mono ?_; rintro e w9 ⟨⟨ar, cr, rfl, ho⟩, hb⟩; have rl := Lib.hid ho.row; clear ho; clear hS tok1 _t; have tok2 : True := trivial) | (go_at_call 28; have _t := tok2; have hS := ‹_ ∧ _ ∧ _ ∧ _ ∧ Row _ _ _ _ ∧ Row _ _ _ _ ∧ Below _ _ _›; refine (hcs.out _ _ _ (hS.2.2.2.2.1)).mono ?_; rintro e w10 ⟨⟨ac_, cc_, rfl, ho⟩, hb⟩; have cl := Lib.hid ho.row; replace rl := Lib.hid (rl.out.bel hb); clear ho; clear hS tok2 _t; have tok3 : True := trivial) | (go_at_call 21; have _t := tok3; have hS := ‹_ ∧ _ ∧ _ ∧ _ ∧ Row _ _ _ _ ∧ Row _ _ _ _ ∧ Below _ _ _›; refine (sc_ok hsM.out _ _ _ _ _ rl.out cl.out hn13 hW13).mono ?_; rintro e w11 ⟨rfl, hb⟩; clear rl cl; clear hS tok3 _t; have tok4 : True := trivial))
  have hbl : Below w7.heap.size w7 w11 := And.right (And.right (And.right (And.right (And.right (And.right (‹w11.cell? _ = _ ∧ _›))))))
  clear p_
  clear o_
  have szw11 := hbl.size
  replace p0 := kept hbl (block_lt p0) p0
  replace p1 := kept hbl (block_lt p1) p1
  replace o0 := kept hbl (block_lt o0) o0
  replace o1 := kept hbl (block_lt o1) o1
  replace p := Lib.hid (p.out.bel hbl)
  replace o := Lib.hid (o.out.bel hbl)
  replace bb := Lib.hid (bb.out.trans (hbl.mono bb.out.size))
  clear hbl
  go_wp2_with fail
  go_ret
  exact ⟨rfl, bb.out⟩

set_option maxRecDepth 100000 in
theorem lifted (os : Os) (started : os.Started) (H : Type) (enc : TypeId × Value → H) :
    ReturnsInHanded {} Try.checked os 12 .any (Rows.fnRankOtherSpec.pre6 enc Try.prog Try.f12 Rows.fnRankOtherRow.domain false) (Rows.fnRankOtherSpec.post enc Try.prog Try.f12 false true false false) := by
  refine returnsInHanded_of_change (C := Try.checked) own started (by kernel_rfl) Try.func12
    (ChangeSpec.witness6 (enc := enc) (C := Try.checked) false ⟨#[], #[.slice none 0 0], []⟩ 8 (by kernel_rfl) (by kernel_rfl) (by kernel_rfl) (by kernel_rfl)) ?_
  intro W base args ds gs before hval0 hW hcnd _
  have hval : ∀ (j : Nat) t v, Try.f12.params[j]? = some t → args[j]? = some v → Value.okWide Try.prog W .any base t v := hval0
  have hW' := hW
  obtain ⟨p, q, hA0, hV, rfl, hfz, hnd⟩ := hW
  have hA : DataW.TrodAll enc Try.prog W 0 (fun _ => true) true Try.f12.params.toList args.toList ds p := hA0
  rw [Try.params12] at hA hval
  obtain ⟨v0, vs0, d0, ds0, p0, q0, hargs, rfl, rfl, h0, r0⟩ := trodAll_cons hA
  obtain ⟨rfl, rfl, rfl⟩ := trodAll_nil r0
  obtain rfl : args = #[v0] := by cases args; simp_all
  obtain ⟨rfl, rfl⟩ := trodVars_none hV
  have k0 := h0
  have lt0 : ∀ x ∈ p0, x.block < W.heap.size := by obtain ⟨m, hm⟩ := k0; exact DataW.trod_lt m _ _ _ hm
  obtain ⟨a0, len0, cap0, z0, rfl, w0, l0, m0⟩ := open_code (hval 0 22 v0 rfl rfl) h0
  clear hA0 hval0
  refine (walk a0 len0 cap0 z0 W w0 l0 m0).mono fun e W' ⟨he, bel⟩ => ?_
  subst he
  exact ⟨_, rfl, _, _, _, [], _, [], hW', trodAll_mk1 (shut_bool Try.underlying4 _), (trodAll_cons_mk (Below.trod laidOut (by kernel_rfl) (of_decide_eq_true (by kernel_rfl)) k0 bel lt0) trodAll_mk0), rfl, bel.frame _, fun h => by cases h⟩

theorem closed : joinedFacts Try.prog 12 Try.f12 Rows.fnRankOtherSpec Rows.fnRankOtherRow = true := by
  simp only [joinedFacts, Bool.and_eq_true]
  repeat' apply And.intro
  all_goals first | with_reducible exact mayEnterOk | (with_reducible rw [liftsFinalOk]; kernel_rfl) | (with_reducible rw [makeOk]; kernel_rfl) | kernel_rfl

theorem over : Rows.fnRankOtherRow.holds Try.pinned (OpenSpec.ofChange Rows.fnRankOtherSpec) :=
  OpenClaim.holds_of_wide 12 Try.f12 rfl rfl rfl rfl rfl rfl rfl ⟨rfl, rfl, rfl, rfl, rfl⟩ rfl rfl rfl rfl rfl (by kernel_rfl) Try.func12 closed
    (of_decide_eq_true (by kernel_rfl)) (by unfold Func.isWrapper; first | (rw [if_pos (by decide +kernel)]; kernel_rfl) | (rw [if_neg (by decide +kernel)]; exact ⟨rfl, rfl⟩))
    (fun os started H enc _ => lifted os started H enc)

theorem proved : Rows.FnRankOtherSaid := over
#print axioms proved
end Go.Proofs.Ytnfkafaolelkbaa.LFRankOther

