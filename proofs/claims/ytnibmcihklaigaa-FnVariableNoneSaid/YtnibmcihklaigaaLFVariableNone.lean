/-
  For every slice of bytes the law FnVariableNone answers true: an image without switches has no variable cell, and no line has just one; nothing that was there is written; no condition.
-/
import Derived.Test.YtnibmcihklaigaaO
import Derived.Test.YtnibmcihklaigaaK
import Derived.Deep.RegionLaw
import Derived.Test.YtnibmcihklaigaaMj
import Derived.Test.YtnibmcihklaigaaEp
namespace Go.Proofs.Ytnibmcihklaigaa.LFVariableNone
open Go.ChangeShapes Go.WideShapes Go.ChangeAt Go.RowKit Go.Joins

set_option maxHeartbeats 4000000 in
set_option maxRecDepth 100000 in
theorem walk (a : Option Addr) (len cap : Nat) (zs : List Int) (w : World) (h : Bys w a len zs) (hl : len ≤ cap) (hm : cap ≤ 9223372036854775807) :
    Calls Try.prog 23 #[.slice a len cap] w fun e w' => e = .returned (.bool true) ∧ Below w.heap.size w w' := by
  by_cases hbig : 1048576 < len
  · clear h
    go_enter Try.func23, Try.ntmps23
    go_wp2_with fail
    go_ret
    exact ⟨rfl, Below.refl _ _⟩
  go_enter Try.func23, Try.ntmps23
  go_wp2_with fail
  refine (draw_DrawCellsVariable a len cap zs _ h hl hm).mono ?_
  rintro e w1 ⟨V, s, n, cg, xs, rfl, hR, hn, hb1⟩
  clear h hl hm
  have bb := Lib.hid hb1
  have p := Lib.hid hR
  clear hR hb1
  have hbx : Below w1.heap.size w1 (w1.alloc (.cells #[.int .i64 V, .slice s n cg] 25)) := (Below.refl _ _).alloc (Nat.le_refl _) _
  replace p := Lib.hid (p.out.bel hbx)
  replace bb := Lib.hid (bb.out.trans (hbx.mono bb.out.size))
  clear hbx
  have p0 : (w1.alloc (.cells #[.int .i64 V, .slice s n cg] 25)).cell? ⟨w1.heap.size, 0, none⟩ = some (.int .i64 V) := by simp
  have p1 : (w1.alloc (.cells #[.int .i64 V, .slice s n cg] 25)).cell? ⟨w1.heap.size, 1, none⟩ = some (.slice s n cg) := by simp
  by_cases hv : validB V xs = true
  case neg =>
    have hv : validB V xs = false := by simpa using hv
    go_wp2_with fail
    refine (vars_no hv (by omega) _ _ _ p.out).mono ?_
    rintro e w2 ⟨⟨ao, co, rfl, ho⟩, hb⟩
    have o := Lib.hid ho.row
    have szw2 : w1.heap.size + 1 ≤ w2.heap.size := by have := hb.size; simpa using this
    replace p0 := kept hb (block_lt p0) p0
    replace p1 := kept hb (block_lt p1) p1
    replace p := Lib.hid (p.out.bel hb)
    replace bb := Lib.hid (bb.out.trans (hb.mono bb.out.size))
    clear hb
    clear ho
    have hbx : Below w2.heap.size w2 (w2.alloc (.cells #[.int .i64 0, .slice ao 0 co] 25)) := (Below.refl _ _).alloc (Nat.le_refl _) _
    replace p0 := kept hbx (block_lt p0) p0
    replace p1 := kept hbx (block_lt p1) p1
    replace p := Lib.hid (p.out.bel hbx)
    replace o := Lib.hid (o.out.bel hbx)
    replace bb := Lib.hid (bb.out.trans (hbx.mono bb.out.size))
    clear hbx
    have o0 : (w2.alloc (.cells #[.int .i64 0, .slice ao 0 co] 25)).cell? ⟨w2.heap.size, 0, none⟩ = some (.int .i64 0) := by simp
    have o1 : (w2.alloc (.cells #[.int .i64 0, .slice ao 0 co] 25)).cell? ⟨w2.heap.size, 1, none⟩ = some (.slice ao 0 co) := by simp
    go_wp2_with fail
    refine (vars_sno hv (by omega) _ _ _ p.out).mono ?_
    rintro e w3 ⟨⟨aow, cow, rfl, ho⟩, hb⟩
    have ow := Lib.hid ho.row
    have szw3 : w2.heap.size + 1 ≤ w3.heap.size := by have := hb.size; simpa using this
    replace p0 := kept hb (block_lt p0) p0
    replace p1 := kept hb (block_lt p1) p1
    replace o0 := kept hb (block_lt o0) o0
    replace o1 := kept hb (block_lt o1) o1
    replace p := Lib.hid (p.out.bel hb)
    replace o := Lib.hid (o.out.bel hb)
    replace bb := Lib.hid (bb.out.trans (hb.mono bb.out.size))
    clear hb
    clear ho
    have hbx : Below w3.heap.size w3 (w3.alloc (.cells #[.int .i64 0, .slice aow 0 cow] 25)) := (Below.refl _ _).alloc (Nat.le_refl _) _
    replace p0 := kept hbx (block_lt p0) p0
    replace p1 := kept hbx (block_lt p1) p1
    replace o0 := kept hbx (block_lt o0) o0
    replace o1 := kept hbx (block_lt o1) o1
    replace p := Lib.hid (p.out.bel hbx)
    replace o := Lib.hid (o.out.bel hbx)
    replace ow := Lib.hid (ow.out.bel hbx)
    replace bb := Lib.hid (bb.out.trans (hbx.mono bb.out.size))
    clear hbx
    have ow0 : (w3.alloc (.cells #[.int .i64 0, .slice aow 0 cow] 25)).cell? ⟨w3.heap.size, 0, none⟩ = some (.int .i64 0) := by simp
    have ow1 : (w3.alloc (.cells #[.int .i64 0, .slice aow 0 cow] 25)).cell? ⟨w3.heap.size, 1, none⟩ = some (.slice aow 0 cow) := by simp
    go_wp2_with fail
    refine (sameImage_yes _ _ _ _ _ _ [] _ o.out ow.out (by omega)).mono ?_
    rintro e w4 ⟨rfl, hb⟩
    have szw4 : w3.heap.size + 1 ≤ w4.heap.size := by have := hb.size; simpa using this
    replace p0 := kept hb (block_lt p0) p0
    replace p1 := kept hb (block_lt p1) p1
    replace o0 := kept hb (block_lt o0) o0
    replace o1 := kept hb (block_lt o1) o1
    replace ow0 := kept hb (block_lt ow0) ow0
    replace ow1 := kept hb (block_lt ow1) ow1
    replace p := Lib.hid (p.out.bel hb)
    replace o := Lib.hid (o.out.bel hb)
    replace ow := Lib.hid (ow.out.bel hb)
    replace bb := Lib.hid (bb.out.trans (hb.mono bb.out.size))
    clear hb
    go_wp2_with fail
    refine (sameImage_yes _ _ _ _ _ _ [] _ o.out ow.out (by omega)).mono ?_
    rintro e w5 ⟨rfl, hb⟩
    have szw5 := hb.size
    replace p0 := kept hb (block_lt p0) p0
    replace p1 := kept hb (block_lt p1) p1
    replace o0 := kept hb (block_lt o0) o0
    replace o1 := kept hb (block_lt o1) o1
    replace ow0 := kept hb (block_lt ow0) ow0
    replace ow1 := kept hb (block_lt ow1) ow1
    replace p := Lib.hid (p.out.bel hb)
    replace o := Lib.hid (o.out.bel hb)
    replace ow := Lib.hid (ow.out.bel hb)
    replace bb := Lib.hid (bb.out.trans (hb.mono bb.out.size))
    clear hb
    go_wp2_with fail
    go_ret
    exact ⟨rfl, bb.out⟩
  have hI0 := validB_W hv
  obtain ⟨W, rfl⟩ := Int.eq_ofNat_of_zero_le (by omega : 0 ≤ V)
  have hI : Im W n xs := Im.of hv p.out.1
  have hW6 := hI.w6
  have hW1 := hI.w1
  have hn1 := hI.l1
  have hn6 := hI.l6
  have hJ := varl_im hI
  obtain ⟨L, hL⟩ : ∃ L, varL xs W n = L := ⟨_, rfl⟩
  rw [hL] at hJ
  replace hL := Lib.hid hL
  replace hI := Lib.hid hI
  replace hJ := Lib.hid hJ
  clear hv hI0
  go_wp2_with fail
  refine (vars_ok hI.out hL.out _ _ _ p.out).mono ?_
  rintro e w6 ⟨⟨ao, co, rfl, ho⟩, hb⟩
  have o := Lib.hid ho.row
  have szw6 : w1.heap.size + 1 ≤ w6.heap.size := by have := hb.size; simpa using this
  replace p0 := kept hb (block_lt p0) p0
  replace p1 := kept hb (block_lt p1) p1
  replace p := Lib.hid (p.out.bel hb)
  replace bb := Lib.hid (bb.out.trans (hb.mono bb.out.size))
  clear hb
  clear ho
  have hbx : Below w6.heap.size w6 (w6.alloc (.cells #[.int .i64 W, .slice ao n co] 25)) := (Below.refl _ _).alloc (Nat.le_refl _) _
  replace p0 := kept hbx (block_lt p0) p0
  replace p1 := kept hbx (block_lt p1) p1
  replace p := Lib.hid (p.out.bel hbx)
  replace o := Lib.hid (o.out.bel hbx)
  replace bb := Lib.hid (bb.out.trans (hbx.mono bb.out.size))
  clear hbx
  have o0 : (w6.alloc (.cells #[.int .i64 W, .slice ao n co] 25)).cell? ⟨w6.heap.size, 0, none⟩ = some (.int .i64 W) := by simp
  have o1 : (w6.alloc (.cells #[.int .i64 W, .slice ao n co] 25)).cell? ⟨w6.heap.size, 1, none⟩ = some (.slice ao n co) := by simp
  go_wp2_with fail
  refine (vars_sok hI.out hL.out _ _ _ p.out).mono ?_
  rintro e w7 ⟨⟨aow, cow, rfl, ho⟩, hb⟩
  have ow := Lib.hid ho.row
  have szw7 : w6.heap.size + 1 ≤ w7.heap.size := by have := hb.size; simpa using this
  replace p0 := kept hb (block_lt p0) p0
  replace p1 := kept hb (block_lt p1) p1
  replace o0 := kept hb (block_lt o0) o0
  replace o1 := kept hb (block_lt o1) o1
  replace p := Lib.hid (p.out.bel hb)
  replace o := Lib.hid (o.out.bel hb)
  replace bb := Lib.hid (bb.out.trans (hb.mono bb.out.size))
  clear hb
  clear ho
  have hbx : Below w7.heap.size w7 (w7.alloc (.cells #[.int .i64 W, .slice aow n cow] 25)) := (Below.refl _ _).alloc (Nat.le_refl _) _
  replace p0 := kept hbx (block_lt p0) p0
  replace p1 := kept hbx (block_lt p1) p1
  replace o0 := kept hbx (block_lt o0) o0
  replace o1 := kept hbx (block_lt o1) o1
  replace p := Lib.hid (p.out.bel hbx)
  replace o := Lib.hid (o.out.bel hbx)
  replace ow := Lib.hid (ow.out.bel hbx)
  replace bb := Lib.hid (bb.out.trans (hbx.mono bb.out.size))
  clear hbx
  have ow0 : (w7.alloc (.cells #[.int .i64 W, .slice aow n cow] 25)).cell? ⟨w7.heap.size, 0, none⟩ = some (.int .i64 W) := by simp
  have ow1 : (w7.alloc (.cells #[.int .i64 W, .slice aow n cow] 25)).cell? ⟨w7.heap.size, 1, none⟩ = some (.slice aow n cow) := by simp
  go_wp2_with fail
  refine (sameImage_yes _ _ _ _ _ _ L _ o.out ow.out (by omega)).mono ?_
  rintro e w8 ⟨rfl, hb⟩
  have szw8 : w7.heap.size + 1 ≤ w8.heap.size := by have := hb.size; simpa using this
  replace p0 := kept hb (block_lt p0) p0
  replace p1 := kept hb (block_lt p1) p1
  replace o0 := kept hb (block_lt o0) o0
  replace o1 := kept hb (block_lt o1) o1
  replace ow0 := kept hb (block_lt ow0) ow0
  replace ow1 := kept hb (block_lt ow1) ow1
  replace p := Lib.hid (p.out.bel hb)
  replace o := Lib.hid (o.out.bel hb)
  replace ow := Lib.hid (ow.out.bel hb)
  replace bb := Lib.hid (bb.out.trans (hb.mono bb.out.size))
  clear hb
  clear ow0 ow1 ow
  have hr1 := Lib.hid (fun k hk => hL.out ▸ var_rows hI.out (i := k) hk)
  have hc1 := Lib.hid (fun k hk => hL.out ▸ var_cols hI.out (j := k) hk)
  have hmz := var_none hI.out
  rw [hL.out] at hmz
  have hlz := swl_len (cellOf xs) W n
  obtain ⟨x1, hx1⟩ : ∃ x, manyI W L n = x := ⟨_, rfl⟩
  obtain ⟨x2, hx2⟩ : ∃ x, manyC (cellOf xs) W n = x := ⟨_, rfl⟩
  rw [hx1] at hmz
  rw [hx2] at hlz
  have hE : (x1 == 0) = (x2 == 0) := by
    rw [Bool.eq_iff_iff, beq_iff_eq, beq_iff_eq, hmz]
    constructor
    · intro e; rw [e] at hlz; simpa using hlz.symm
    · intro e; exact List.eq_nil_of_length_eq_zero (by omega)
  have hE2 : ((x1 == 0) == (x2 == 0)) = true := by rw [hE]; simp
  have hmo : manyOf W L = x1 := by rw [hJ.out.many]; exact hx1
  replace hx1 := Lib.hid hx1
  replace hx2 := Lib.hid hx2
  replace hmo := Lib.hid hmo
  replace hE := Lib.hid hE
  clear hmz hlz
  go_wp2_with fail
  refine (rs_ok hJ.out _ _ _ o.out).mono ?_
  rintro e w9 ⟨⟨arl, crl, rfl, ho⟩, hb⟩
  have rl := Lib.hid ho.row
  have szw9 := hb.size
  replace p0 := kept hb (block_lt p0) p0
  replace p1 := kept hb (block_lt p1) p1
  replace o0 := kept hb (block_lt o0) o0
  replace o1 := kept hb (block_lt o1) o1
  replace p := Lib.hid (p.out.bel hb)
  replace o := Lib.hid (o.out.bel hb)
  replace bb := Lib.hid (bb.out.trans (hb.mono bb.out.size))
  clear hb
  clear ho
  go_wp2_with fail
  refine (cs_ok hJ.out _ _ _ o.out).mono ?_
  rintro e w10 ⟨⟨acl, ccl, rfl, ho⟩, hb⟩
  have cl := Lib.hid ho.row
  have szw10 := hb.size
  replace p0 := kept hb (block_lt p0) p0
  replace p1 := kept hb (block_lt p1) p1
  replace o0 := kept hb (block_lt o0) o0
  replace o1 := kept hb (block_lt o1) o1
  replace p := Lib.hid (p.out.bel hb)
  replace o := Lib.hid (o.out.bel hb)
  replace rl := Lib.hid (rl.out.bel hb)
  replace bb := Lib.hid (bb.out.trans (hb.mono bb.out.size))
  clear hb
  clear ho
  go_wp2_with fail
  go_loopw [10] (fun i wr => ∃ k : Nat, k ≤ n ∧ i = .int .i64 k ∧ wr.cell? ⟨w1.heap.size, 0, none⟩ = some (.int .i64 W) ∧ wr.cell? ⟨w1.heap.size, 1, none⟩ = some (.slice s n cg) ∧ wr.cell? ⟨w6.heap.size, 0, none⟩ = some (.int .i64 W) ∧ wr.cell? ⟨w6.heap.size, 1, none⟩ = some (.slice ao n co) ∧ Hid (Row wr s n xs) ∧ Hid (Row wr ao n L) ∧ Hid (Row wr arl n (rsL L W n)) ∧ Hid (Row wr acl W (csL L n W)) ∧ Hid (Below w.heap.size w wr)) (fun i _ => n - (intOf i).toNat)
  case atStart => exact ⟨0, Nat.zero_le _, rfl, p0, p1, o0, o1, p, o, rl, cl, bb⟩
  case round =>
    clear p0 p1 o0 o1 p o rl cl bb
    obtain ⟨k, hk, rfl, p0, p1, o0, o1, p, o, rl, cl, bb⟩ := hrel
    obtain ⟨w11, rfl⟩ : ∃ w11 : World, w11 = wr := ⟨_, rfl⟩
    by_cases hlt : k < n
    case pos =>
      have hne := hr1.out k hlt
      obtain ⟨bx, ox, ea, ck⟩ := row_at rl.out hlt
      generalize (rsL L W n).getD k 0 = v at ck hne
      have hne2 : (v == 1) = false := by simpa using hne
      subst ea
      go_wp2_with fail
      exact ⟨⟨k + 1, by omega, by go_num, p0, p1, o0, o1, p, o, rl, cl, bb⟩, by simp [intOf]; omega⟩
    obtain rfl : n = k := by omega
    clear hlt hk
    go_wp2_with fail
    go_loopw [11] (fun i wr => ∃ k : Nat, k ≤ W ∧ i = .int .i64 k ∧ wr.cell? ⟨w1.heap.size, 0, none⟩ = some (.int .i64 W) ∧ wr.cell? ⟨w1.heap.size, 1, none⟩ = some (.slice s n cg) ∧ wr.cell? ⟨w6.heap.size, 0, none⟩ = some (.int .i64 W) ∧ wr.cell? ⟨w6.heap.size, 1, none⟩ = some (.slice ao n co) ∧ Hid (Row wr s n xs) ∧ Hid (Row wr ao n L) ∧ Hid (Row wr arl n (rsL L W n)) ∧ Hid (Row wr acl W (csL L n W)) ∧ Hid (Below w.heap.size w wr)) (fun i _ => W - (intOf i).toNat)
    case atStart => exact ⟨0, Nat.zero_le _, rfl, p0, p1, o0, o1, p, o, rl, cl, bb⟩
    case round =>
      clear p0 p1 o0 o1 p o rl cl bb
      obtain ⟨k, hk, rfl, p0, p1, o0, o1, p, o, rl, cl, bb⟩ := hrel
      obtain ⟨w12, rfl⟩ : ∃ w12 : World, w12 = wr := ⟨_, rfl⟩
      by_cases hlt : k < W
      case pos =>
        have hne := hc1.out k hlt
        obtain ⟨bx, ox, ea, ck⟩ := row_at cl.out hlt
        generalize (csL L n W).getD k 0 = v at ck hne
        have hne2 : (v == 1) = false := by simpa using hne
        subst ea
        go_wp2_with fail
        exact ⟨⟨k + 1, by omega, by go_num, p0, p1, o0, o1, p, o, rl, cl, bb⟩, by simp [intOf]; omega⟩
      obtain rfl : W = k := by omega
      clear hlt hk
      have HP := p
      have HO := o
      have g_p0 := fun p : Bw w12 => bw_cell p0 p
      have g_p1 := fun p : Bw w12 => bw_cell p1 p
      have g_o0 := fun p : Bw w12 => bw_cell o0 p
      have g_o1 := fun p : Bw w12 => bw_cell o1 p
      have cc0 : ∀ p : Bw w12, Calls Try.prog 69 #[.agg #[.int .i64 W, .slice ao n co]] p.v (fun e w' => e = .returned (.int .i64 x1) ∧ ∃ q : Bw w12, w' = q.v) := fun p => bw_of (((many_impl W ao n co L p.v (HO.out.bel p.h) (by omega)).mono fun e w' hh => ⟨by rw [hh.1, hmo.out], hh.2⟩))
      replace cc0 := Lib.hid cc0
      have cc1 : ∀ p : Bw w12, Calls Try.prog 44 #[.agg #[.int .i64 W, .slice s n cg]] p.v (fun e w' => e = .returned (.int .i64 x2) ∧ ∃ q : Bw w12, w' = q.v) := fun p => bw_of (many_ok hI.out hx2.out _ _ p.v (HP.out.bel p.h))
      replace cc1 := Lib.hid cc1
      go_wp2_with fail
      refine wp_region_bw (by kernel_rfl) (by kernel_rfl) ?_
      repeat (go_big_quiet_step (first | (with_reducible exact cc0.out _) | (with_reducible exact cc1.out _)))
      refine wpQuiet_nil ?_
      intro _ hw'
      obtain ⟨pq, rfl⟩ := hw'
      have hb := pq.h
      clear g_p0 g_p1 g_o0 g_o1 cc0 cc1
      generalize pq.v = w13 at hb ⊢
      clear pq
      have szw13 := hb.size
      replace p0 := kept hb (block_lt p0) p0
      replace p1 := kept hb (block_lt p1) p1
      replace o0 := kept hb (block_lt o0) o0
      replace o1 := kept hb (block_lt o1) o1
      replace p := Lib.hid (p.out.bel hb)
      replace o := Lib.hid (o.out.bel hb)
      replace rl := Lib.hid (rl.out.bel hb)
      replace cl := Lib.hid (cl.out.bel hb)
      replace bb := Lib.hid (bb.out.trans (hb.mono bb.out.size))
      clear hb
      clear HP HO
      go_wp2_with fail
      go_ret
      exact ⟨rfl, bb.out⟩

set_option maxRecDepth 100000 in
theorem lifted (os : Os) (started : os.Started) (H : Type) (enc : TypeId × Value → H) :
    ReturnsInHanded {} Try.checked os 23 .any (Rows.fnVariableNoneSpec.pre6 enc Try.prog Try.f23 Rows.fnVariableNoneRow.domain false) (Rows.fnVariableNoneSpec.post enc Try.prog Try.f23 false true false false) := by
  refine returnsInHanded_of_change (C := Try.checked) own started (by kernel_rfl) Try.func23
    (ChangeSpec.witness6 (enc := enc) (C := Try.checked) false ⟨#[], #[.slice none 0 0], []⟩ 8 (by kernel_rfl) (by kernel_rfl) (by kernel_rfl) (by kernel_rfl)) ?_
  intro W base args ds gs before hval0 hW hcnd _
  have hval : ∀ (j : Nat) t v, Try.f23.params[j]? = some t → args[j]? = some v → Value.okWide Try.prog W .any base t v := hval0
  have hW' := hW
  obtain ⟨p, q, hA0, hV, rfl, hfz, hnd⟩ := hW
  have hA : DataW.TrodAll enc Try.prog W 0 (fun _ => true) true Try.f23.params.toList args.toList ds p := hA0
  rw [Try.params23] at hA hval
  obtain ⟨v0, vs0, d0, ds0, p0, q0, hargs, rfl, rfl, h0, r0⟩ := trodAll_cons hA
  obtain ⟨rfl, rfl, rfl⟩ := trodAll_nil r0
  obtain rfl : args = #[v0] := by cases args; simp_all
  obtain ⟨rfl, rfl⟩ := trodVars_none hV
  have k0 := h0
  have lt0 : ∀ x ∈ p0, x.block < W.heap.size := by obtain ⟨m, hm⟩ := k0; exact DataW.trod_lt m _ _ _ hm
  obtain ⟨a0, len0, cap0, z0, rfl, w0, l0, m0⟩ := open_code (hval 0 22 v0 rfl rfl) h0
  clear hA0 hval0
  refine (walk a0 len0 cap0 z0 W w0 l0 m0).mono fun e W' ⟨he, bel⟩ => ?_
  subst he
  exact ⟨_, rfl, _, _, _, [], _, [], hW', trodAll_mk1 (shut_bool Try.underlying4 _), (trodAll_cons_mk (Below.trod laidOut (by kernel_rfl) (of_decide_eq_true (by kernel_rfl)) k0 bel lt0) trodAll_mk0), rfl, bel.frame _, fun h => by cases h⟩

theorem closed : joinedFacts Try.prog 23 Try.f23 Rows.fnVariableNoneSpec Rows.fnVariableNoneRow = true := by
  simp only [joinedFacts, Bool.and_eq_true]
  repeat' apply And.intro
  all_goals first | with_reducible exact mayEnterOk | (with_reducible rw [liftsFinalOk]; kernel_rfl) | (with_reducible rw [makeOk]; kernel_rfl) | kernel_rfl

theorem over : Rows.fnVariableNoneRow.holds Try.pinned (OpenSpec.ofChange Rows.fnVariableNoneSpec) :=
  OpenClaim.holds_of_wide 23 Try.f23 rfl rfl rfl rfl rfl rfl rfl ⟨rfl, rfl, rfl, rfl, rfl⟩ rfl rfl rfl rfl rfl (by kernel_rfl) Try.func23 closed
    (of_decide_eq_true (by kernel_rfl)) (by unfold Func.isWrapper; first | (rw [if_pos (by decide +kernel)]; kernel_rfl) | (rw [if_neg (by decide +kernel)]; exact ⟨rfl, rfl⟩))
    (fun os started H enc _ => lifted os started H enc)

theorem proved : Rows.FnVariableNoneSaid := over
#print axioms proved
end Go.Proofs.Ytnibmcihklaigaa.LFVariableNone

