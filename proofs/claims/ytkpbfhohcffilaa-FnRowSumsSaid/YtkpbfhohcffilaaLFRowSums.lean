/-
  For every slice of bytes the law FnRowSums answers true: each row sum is in its range, and together they are the set cells; nothing that was there is written; no condition.
-/
import Derived.Test.YtkpbfhohcffilaaO
import Derived.Test.YtkpbfhohcffilaaK
import Derived.Deep.RegionLaw
import Derived.Test.YtkpbfhohcffilaaEp
import Derived.Test.YtkpbfhohcffilaaA
namespace Go.Proofs.Ytkpbfhohcffilaa.LFRowSums
set_option maxRecDepth 100000
open Go.ChangeShapes Go.WideShapes Go.ChangeAt Go.RowKit Go.Joins

set_option maxHeartbeats 1000000 in
set_option maxRecDepth 100000 in
theorem walk (a : Option Addr) (len cap : Nat) (zs : List Int) (w : World) (h : Bys w a len zs) (hl : len ≤ cap) (hm : cap ≤ 9223372036854775807) :
    Calls Try.prog 4 #[.slice a len cap] w fun e w' => e = .returned (.bool true) ∧ Below w.heap.size w w' := by
  by_cases hbig : 1048576 < len
  · clear h
    go_enter Try.func4, Try.ntmps4
    go_wp2_with fail
    go_ret
    exact ⟨rfl, Below.refl _ _⟩
  go_enter Try.func4, Try.ntmps4
  go_wp2_with fail
  refine (draw_DrawRowSums a len cap zs _ h hl hm).mono ?_
  rintro e w1 ⟨W, s, n, cg, xs, rfl, hR, hn, hb1⟩
  clear h hl hm
  have bb := Lib.hid hb1
  have p := Lib.hid hR
  clear hR hb1
  have hbx : Below w1.heap.size w1 (w1.alloc (.cells #[.int .i64 W, .slice s n cg] 25)) := (Below.refl _ _).alloc (Nat.le_refl _) _
  replace p := Lib.hid (p.out.bel hbx)
  replace bb := Lib.hid (bb.out.trans (hbx.mono bb.out.size))
  clear hbx
  have p0 : (w1.alloc (.cells #[.int .i64 W, .slice s n cg] 25)).cell? ⟨w1.heap.size, 0, none⟩ = some (.int .i64 W) := by simp
  have p1 : (w1.alloc (.cells #[.int .i64 W, .slice s n cg] 25)).cell? ⟨w1.heap.size, 1, none⟩ = some (.slice s n cg) := by simp
  by_cases hv : validB W xs = true
  case neg =>
    have hv : validB W xs = false := by simpa using hv
    go_wp2_with fail
    refine (rs_no hv hn.1 _ _ _ p.out).mono ?_
    rintro e w2 ⟨⟨aoo, coo, rfl, ho⟩, hb⟩
    have oo := Lib.hid ho.row
    have szw2 : w1.heap.size + 1 ≤ w2.heap.size := by have := hb.size; simpa using this
    replace p0 := kept hb (block_lt p0) p0
    replace p1 := kept hb (block_lt p1) p1
    replace p := Lib.hid (p.out.bel hb)
    replace bb := Lib.hid (bb.out.trans (hb.mono bb.out.size))
    clear hb
    clear ho
    go_wp2_with fail
    refine (rs_sno hv hn.1 _ _ _ p.out).mono ?_
    rintro e w3 ⟨⟨aow, cow, rfl, ho⟩, hb⟩
    have ow := Lib.hid ho.row
    have szw3 := hb.size
    replace p0 := kept hb (block_lt p0) p0
    replace p1 := kept hb (block_lt p1) p1
    replace p := Lib.hid (p.out.bel hb)
    replace oo := Lib.hid (oo.out.bel hb)
    replace bb := Lib.hid (bb.out.trans (hb.mono bb.out.size))
    clear hb
    clear ho
    go_wp2_with fail
    refine (same_yes _ _ _ _ _ [] _ oo.out ow.out (by omega)).mono ?_
    rintro e w4 ⟨rfl, hb⟩
    have szw4 := hb.size
    replace p0 := kept hb (block_lt p0) p0
    replace p1 := kept hb (block_lt p1) p1
    replace p := Lib.hid (p.out.bel hb)
    replace oo := Lib.hid (oo.out.bel hb)
    replace ow := Lib.hid (ow.out.bel hb)
    replace bb := Lib.hid (bb.out.trans (hb.mono bb.out.size))
    clear hb
    go_wp2_with fail
    refine (same_yes _ _ _ _ _ [] _ oo.out ow.out (by omega)).mono ?_
    rintro e w5 ⟨rfl, hb⟩
    have szw5 := hb.size
    replace p0 := kept hb (block_lt p0) p0
    replace p1 := kept hb (block_lt p1) p1
    replace p := Lib.hid (p.out.bel hb)
    replace oo := Lib.hid (oo.out.bel hb)
    replace ow := Lib.hid (ow.out.bel hb)
    replace bb := Lib.hid (bb.out.trans (hb.mono bb.out.size))
    clear hb
    go_wp2_with fail
    go_ret
    exact ⟨rfl, bb.out⟩
  have hI0 := validB_W hv
  obtain ⟨W, rfl⟩ := Int.eq_ofNat_of_zero_le (by omega : 0 ≤ W)
  have hI : Im W n xs := Im.of hv p.out.1
  have hW6 := hI.w6
  have hW1 := hI.w1
  have hn1 := hI.l1
  have hn6 := hI.l6
  have hI := Lib.hid hI
  clear hv hI0
  go_wp2_with fail
  refine (rs_ok hI.out _ _ _ p.out).mono ?_
  rintro e w6 ⟨⟨aoo, coo, rfl, ho⟩, hb⟩
  have oo := Lib.hid ho.row
  have szw6 : w1.heap.size + 1 ≤ w6.heap.size := by have := hb.size; simpa using this
  replace p0 := kept hb (block_lt p0) p0
  replace p1 := kept hb (block_lt p1) p1
  replace p := Lib.hid (p.out.bel hb)
  replace bb := Lib.hid (bb.out.trans (hb.mono bb.out.size))
  clear hb
  clear ho
  go_wp2_with fail
  refine (rs_sok hI.out _ _ _ p.out).mono ?_
  rintro e w7 ⟨⟨aow, cow, rfl, ho⟩, hb⟩
  have ow := Lib.hid ho.row
  have szw7 := hb.size
  replace p0 := kept hb (block_lt p0) p0
  replace p1 := kept hb (block_lt p1) p1
  replace p := Lib.hid (p.out.bel hb)
  replace oo := Lib.hid (oo.out.bel hb)
  replace bb := Lib.hid (bb.out.trans (hb.mono bb.out.size))
  clear hb
  clear ho
  go_wp2_with fail
  refine (same_yes _ _ _ _ _ (rsL xs W n) _ oo.out ow.out (by omega)).mono ?_
  rintro e w8 ⟨rfl, hb⟩
  have szw8 := hb.size
  replace p0 := kept hb (block_lt p0) p0
  replace p1 := kept hb (block_lt p1) p1
  replace p := Lib.hid (p.out.bel hb)
  replace oo := Lib.hid (oo.out.bel hb)
  replace ow := Lib.hid (ow.out.bel hb)
  replace bb := Lib.hid (bb.out.trans (hb.mono bb.out.size))
  clear hb
  clear ow
  go_wp2_with fail
  go_loopw [6] (fun i wr => ∃ k : Nat, k ≤ n ∧ i = .int .i64 k ∧ Below w8.heap.size w8 wr) (fun i _ => n - (intOf i).toNat)
  case atStart => exact ⟨0, Nat.zero_le _, rfl, Below.refl _ _⟩
  case round =>
    obtain ⟨k, hk, rfl, hB⟩ := hrel
    by_cases hlt : k < n
    · skip
      have hB0 := Lib.hid hB
      replace p0 := kept hB (block_lt p0) p0
      replace p1 := kept hB (block_lt p1) p1
      replace p := Lib.hid (p.out.bel hB)
      replace oo := Lib.hid (oo.out.bel hB)
      replace bb := Lib.hid (bb.out.trans (hB.mono bb.out.size))
      clear hB
      obtain ⟨b, off, rfl, hc⟩ := row_at oo.out hlt
      have hx := hI.out.rs_bd hlt
      generalize (rsL xs W n).getD k 0 = x at hc hx
      have hd0 : decide (x < 0) = false := decide_eq_false (by omega)
      have hd1 : decide ((W : Int) < x) = false := decide_eq_false (by omega)
      go_wp2_with fail
      go_quiet (fail)
      go_wp2_with fail
      exact ⟨⟨k + 1, by omega, by go_num, below_drewN hB0.out _⟩, by simp [intOf]; omega⟩
    · have : k = n := by omega
      subst this
      replace p0 := kept hB (block_lt p0) p0
      replace p1 := kept hB (block_lt p1) p1
      replace p := Lib.hid (p.out.bel hB)
      replace oo := Lib.hid (oo.out.bel hB)
      replace bb := Lib.hid (bb.out.trans (hB.mono bb.out.size))
      clear hB
      have e1 := rs_total xs W k
      have e2 := hI.out.many
      generalize manyI W xs k = q at e1 e2
      have e1 := Lib.hid e1
      have e2 := Lib.hid e2
      have tok0 : True := trivial
      go_wp2_with fail
      go_region_law (first | ((go_simp; go_at_call 19; have _t := tok0; (with_reducible refine (sumOf_bel _ _ _ _ _ (oo.out.bel ((Below.refl _ _).drew)) (by omega) (fun i hi => by have := hI.out.rs_bd hi; omega) q e1.out).mono ?_); rintro e w9 ⟨rfl, hb⟩; have szw9 := hb.size; replace p0 := kept hb (block_lt (show wr.drew.cell? _ = _ from p0)) (show wr.drew.cell? _ = _ from p0); replace p1 := kept hb (block_lt (show wr.drew.cell? _ = _ from p1)) (show wr.drew.cell? _ = _ from p1); replace p := Lib.hid ((p.out.bel ((Below.refl _ _).drew)).bel hb); replace oo := Lib.hid ((oo.out.bel ((Below.refl _ _).drew)).bel hb); replace bb := Lib.hid (bb.out.drew.trans (hb.mono bb.out.drew.size)); clear hb tok0 _t; have tok1 : True := trivial)) | ((go_simp; go_at_call 14; have _t := tok1; (with_reducible refine (many_impl W s k cg xs _ p.out (by omega)).mono ?_); rintro e w10 ⟨rfl, hb⟩; have szw10 := hb.size; replace p0 := kept hb (block_lt p0) p0; replace p1 := kept hb (block_lt p1) p1; replace p := Lib.hid (p.out.bel hb); replace oo := Lib.hid (oo.out.bel hb); replace bb := Lib.hid (bb.out.trans (hb.mono bb.out.size)); clear hb tok1 _t; have tok2 : True := trivial; rw [e2.out])))
      all_goals
        go_wp2_with fail
        go_ret
        exact ⟨rfl, bb.out⟩

set_option maxRecDepth 100000 in
theorem lifted (os : Os) (started : os.Started) (H : Type) (enc : TypeId × Value → H) :
    ReturnsInHanded {} Try.checked os 4 .any (Rows.fnRowSumsSpec.pre6 enc Try.prog Try.f4 Rows.fnRowSumsRow.domain false) (Rows.fnRowSumsSpec.post enc Try.prog Try.f4 false true false false) := by
  refine returnsInHanded_of_change (C := Try.checked) own started (by kernel_rfl) Try.func4
    (ChangeSpec.witness6 (enc := enc) (C := Try.checked) false ⟨#[], #[.slice none 0 0], []⟩ 8 (by kernel_rfl) (by kernel_rfl) (by kernel_rfl) (by kernel_rfl)) ?_
  intro W base args ds gs before hval0 hW hcnd _
  have hval : ∀ (j : Nat) t v, Try.f4.params[j]? = some t → args[j]? = some v → Value.okWide Try.prog W .any base t v := hval0
  have hW' := hW
  obtain ⟨p, q, hA0, hV, rfl, hfz, hnd⟩ := hW
  have hA : DataW.TrodAll enc Try.prog W 0 (fun _ => true) true Try.f4.params.toList args.toList ds p := hA0
  rw [Try.params4] at hA hval
  obtain ⟨v0, vs0, d0, ds0, p0, q0, hargs, rfl, rfl, h0, r0⟩ := trodAll_cons hA
  obtain ⟨rfl, rfl, rfl⟩ := trodAll_nil r0
  obtain rfl : args = #[v0] := by cases args; simp_all
  obtain ⟨rfl, rfl⟩ := trodVars_none hV
  have k0 := h0
  have lt0 : ∀ x ∈ p0, x.block < W.heap.size := by obtain ⟨m, hm⟩ := k0; exact DataW.trod_lt m _ _ _ hm
  obtain ⟨a0, len0, cap0, z0, rfl, w0, l0, m0⟩ := open_code (hval 0 22 v0 rfl rfl) h0
  clear hA0 hval0
  refine (walk a0 len0 cap0 z0 W w0 l0 m0).mono fun e W' ⟨he, bel⟩ => ?_
  subst he
  exact ⟨_, rfl, _, _, _, [], _, [], hW', trodAll_mk1 (shut_bool Try.underlying4 _), (trodAll_cons_mk (Below.trod laidOut (by kernel_rfl) (of_decide_eq_true (by kernel_rfl)) k0 bel lt0) trodAll_mk0), rfl, bel.frame _, fun h => by cases h⟩

theorem closed : joinedFacts Try.prog 4 Try.f4 Rows.fnRowSumsSpec Rows.fnRowSumsRow = true := by
  simp only [joinedFacts, Bool.and_eq_true]
  repeat' apply And.intro
  all_goals first | with_reducible exact mayEnterOk | (with_reducible rw [liftsFinalOk]; kernel_rfl) | (with_reducible rw [makeOk]; kernel_rfl) | kernel_rfl

theorem over : Rows.fnRowSumsRow.holds Try.pinned (OpenSpec.ofChange Rows.fnRowSumsSpec) :=
  OpenClaim.holds_of_wide 4 Try.f4 rfl rfl rfl rfl rfl rfl rfl ⟨rfl, rfl, rfl, rfl, rfl⟩ rfl rfl rfl rfl rfl (by kernel_rfl) Try.func4 closed
    (of_decide_eq_true (by kernel_rfl)) (by unfold Func.isWrapper; first | (rw [if_pos (by decide +kernel)]; kernel_rfl) | (rw [if_neg (by decide +kernel)]; exact ⟨rfl, rfl⟩))
    (fun os started H enc _ => lifted os started H enc)

theorem proved : Rows.FnRowSumsSaid := over
#print axioms proved
end Go.Proofs.Ytkpbfhohcffilaa.LFRowSums

