/-
  For any two slices of bytes the law FnSwitchListAll answers true: no switch is left out; nothing that was there is written; no condition.
-/
import Derived.Test.YtnibmcihklaigaaO
import Derived.Test.YtnibmcihklaigaaK
import Derived.Deep.RegionLaw
import Derived.Test.YtnibmcihklaigaaKi
namespace Go.Proofs.Ytnibmcihklaigaa.LFSwitchListAll
open Go.ChangeShapes Go.WideShapes Go.ChangeAt Go.RowKit Go.Joins

set_option maxHeartbeats 4000000 in
set_option maxRecDepth 100000 in
theorem walk (a : Option Addr) (len cap : Nat) (zs : List Int) (a2 : Option Addr) (len2 cap2 : Nat) (zs2 : List Int) (w : World) (h : Bys w a len zs) (hl : len ≤ cap) (hm : cap ≤ 9223372036854775807) (_ : Bys w a2 len2 zs2) (_ : len2 ≤ cap2) (_ : cap2 ≤ 9223372036854775807) :
    Calls Try.prog 9 #[.slice a len cap, .slice a2 len2 cap2] w fun e w' => e = .returned (.bool true) ∧ Below w.heap.size w w' := by
  by_cases hbig : 1048576 < len
  · clear h
    go_enter Try.func9, Try.ntmps9
    go_wp2_with fail
    go_ret
    exact ⟨rfl, Below.refl _ _⟩
  by_cases hbig2 : 1048576 < len2
  · clear h
    go_enter Try.func9, Try.ntmps9
    go_wp2_with fail
    go_ret
    exact ⟨rfl, Below.refl _ _⟩
  go_enter Try.func9, Try.ntmps9
  go_wp2_with fail
  refine (draw_DrawSwitchList a len cap zs _ h hl hm).mono ?_
  rintro e w1 ⟨W, s, n, cg, xs, rfl, hR, hn, hb1⟩
  clear h hl hm
  have bb := Lib.hid hb1
  have p := Lib.hid hR
  clear hR hb1
  have hbx : Below w1.heap.size w1 (w1.alloc (.cells #[.int .i64 W, .slice s n cg] 25)) := (Below.refl _ _).alloc (Nat.le_refl _) _
  replace p := Lib.hid (p.out.bel hbx)
  replace bb := Lib.hid (bb.out.trans (hbx.mono bb.out.size))
  clear hbx
  have p0 : (w1.alloc (.cells #[.int .i64 W, .slice s n cg] 25)).cell? ⟨w1.heap.size, 0, none⟩ = some (.int .i64 W) := by simp
  have p1 : (w1.alloc (.cells #[.int .i64 W, .slice s n cg] 25)).cell? ⟨w1.heap.size, 1, none⟩ = some (.slice s n cg) := by simp
  have hlen := list_len (W := W) p.out.1 (by omega)
  have him := fun t (ht : t ∈ listS W xs) => listS_im p.out.1 ht
  obtain ⟨Z, hZ⟩ : ∃ Z, listS W xs = Z := ⟨_, rfl⟩
  rw [hZ] at hlen him
  obtain ⟨N, hN⟩ : ∃ N, Z.length = N := ⟨_, rfl⟩
  rw [hN] at hlen
  replace hZ := Lib.hid hZ
  replace hN := Lib.hid hN
  replace him := Lib.hid him
  go_wp2_with fail
  refine (swlist_iN hZ.out hN.out (by omega) _ _ _ p.out).mono ?_
  rintro e w2 ⟨⟨ao, co, rfl, ho⟩, hb⟩
  have o := Lib.hid ho
  have szw2 : w1.heap.size + 1 ≤ w2.heap.size := by have := hb.size; simpa using this
  replace p0 := kept hb (block_lt p0) p0
  replace p1 := kept hb (block_lt p1) p1
  replace p := Lib.hid (p.out.bel hb)
  replace bb := Lib.hid (bb.out.trans (hb.mono bb.out.size))
  clear hb
  clear ho
  go_wp2_with fail
  refine (swlist_sN hZ.out hN.out (by omega) _ _ _ p.out).mono ?_
  rintro e w3 ⟨⟨aow, cow, rfl, ho⟩, hb⟩
  have ow := Lib.hid ho
  have szw3 := hb.size
  replace p0 := kept hb (block_lt p0) p0
  replace p1 := kept hb (block_lt p1) p1
  replace p := Lib.hid (p.out.bel hb)
  replace o := Lib.hid (o.out.bel hb)
  replace bb := Lib.hid (bb.out.trans (hb.mono bb.out.size))
  clear hb
  clear ho
  go_wp2_with fail
  refine (sameSw_yes _ _ _ _ _ Z _ o.out ow.out (by omega)).mono ?_
  rintro e w4 ⟨rfl, hb⟩
  have szw4 := hb.size
  replace p0 := kept hb (block_lt p0) p0
  replace p1 := kept hb (block_lt p1) p1
  replace p := Lib.hid (p.out.bel hb)
  replace o := Lib.hid (o.out.bel hb)
  replace ow := Lib.hid (ow.out.bel hb)
  replace bb := Lib.hid (bb.out.trans (hb.mono bb.out.size))
  clear hb
  by_cases hz : N = 0
  case pos =>
    subst hz
    go_wp2_with fail
    refine (sameSw_yes _ _ _ _ _ Z _ o.out ow.out (by omega)).mono ?_
    rintro e w5 ⟨rfl, hb⟩
    have szw5 := hb.size
    replace p0 := kept hb (block_lt p0) p0
    replace p1 := kept hb (block_lt p1) p1
    replace p := Lib.hid (p.out.bel hb)
    replace o := Lib.hid (o.out.bel hb)
    replace ow := Lib.hid (ow.out.bel hb)
    replace bb := Lib.hid (bb.out.trans (hb.mono bb.out.size))
    clear hb
    go_wp2_with fail
    go_ret
    exact ⟨rfl, bb.out⟩
  clear ow
  obtain ⟨W, rfl, hI, -⟩ := him.out (Z[0]'(by rw [hN.out]; omega)) (List.getElem_mem _)
  have hall : Hid (∀ k A B C D : Nat, ∀ hk : k < Z.length, Z[k] = (A, B, C, D) → A < B ∧ B < n ∧ C < D ∧ D < W ∧ okB W xs A B C D = true) := fun k A B C D hk e => by
    obtain ⟨W', e2, hI', h1, h2, h3, h4, h5⟩ := him.out Z[k] (List.getElem_mem hk)
    rw [e] at h1 h2 h3 h4 h5
    have e3 : W = W' := by omega
    subst e3
    exact ⟨h1, h2, h3, h4, (okB_yes hI h1 h2 h3 h4).trans h5⟩
  have hW6 := hI.w6
  have hW1 := hI.w1
  have hn1 := hI.l1
  have hn6 := hI.l6
  replace hI := Lib.hid hI
  clear him
  obtain ⟨E0, hE0⟩ : ∃ E : Nat, len2 % 6 = E := ⟨_, rfl⟩
  obtain ⟨E1, hE1⟩ : ∃ E : Nat, len2 / 6 % 6 = E := ⟨_, rfl⟩
  obtain ⟨E2, hE2⟩ : ∃ E : Nat, len2 / 36 % 6 = E := ⟨_, rfl⟩
  obtain ⟨E3, hE3⟩ : ∃ E : Nat, len2 / 216 % 6 = E := ⟨_, rfl⟩
  have f0 : Hid ((len2 : Int) % 6 = (E0 : Int)) := by show (len2 : Int) % 6 = (E0 : Int); omega
  have f1 : Hid ((len2 : Int) / 6 % 6 = (E1 : Int)) := by show (len2 : Int) / 6 % 6 = (E1 : Int); omega
  have f2 : Hid ((len2 : Int) / 36 % 6 = (E2 : Int)) := by show (len2 : Int) / 36 % 6 = (E2 : Int); omega
  have f3 : Hid ((len2 : Int) / 216 % 6 = (E3 : Int)) := by show (len2 : Int) / 216 % 6 = (E3 : Int); omega
  clear hE0 hE1 hE2 hE3
  have hend : Hid (okB W xs E0 E1 E2 E3 = decide ((E0, E1, E2, E3) ∈ Z)) := by rw [← hZ.out, list_im hI.out]; exact okB_mem hI.out _ _ _ _
  go_wp2_with fail
  rw [f0.out, f1.out, f2.out, f3.out]
  clear f0 f1 f2 f3
  have hbx : Below w4.heap.size w4 (w4.alloc (.cells #[.int .i64 E0, .int .i64 E1, .int .i64 E2, .int .i64 E3] 27)) := (Below.refl _ _).alloc (Nat.le_refl _) _
  replace p0 := kept hbx (block_lt p0) p0
  replace p1 := kept hbx (block_lt p1) p1
  replace p := Lib.hid (p.out.bel hbx)
  replace o := Lib.hid (o.out.bel hbx)
  replace bb := Lib.hid (bb.out.trans (hbx.mono bb.out.size))
  clear hbx
  have t0 : (w4.alloc (.cells #[.int .i64 E0, .int .i64 E1, .int .i64 E2, .int .i64 E3] 27)).cell? ⟨w4.heap.size, 0, none⟩ = some (.int .i64 E0) := by simp
  have t1 : (w4.alloc (.cells #[.int .i64 E0, .int .i64 E1, .int .i64 E2, .int .i64 E3] 27)).cell? ⟨w4.heap.size, 1, none⟩ = some (.int .i64 E1) := by simp
  have t2 : (w4.alloc (.cells #[.int .i64 E0, .int .i64 E1, .int .i64 E2, .int .i64 E3] 27)).cell? ⟨w4.heap.size, 2, none⟩ = some (.int .i64 E2) := by simp
  have t3 : (w4.alloc (.cells #[.int .i64 E0, .int .i64 E1, .int .i64 E2, .int .i64 E3] 27)).cell? ⟨w4.heap.size, 3, none⟩ = some (.int .i64 E3) := by simp
  have P := Lib.hid (show LS w (w4.alloc (.cells #[.int .i64 E0, .int .i64 E1, .int .i64 E2, .int .i64 E3] 27)) w1.heap.size W s n cg xs from ⟨p0, p1, p.out, bb.out⟩)
  clear p p0 p1 bb
  go_loopw [9, 10] (fun c i wr => ∃ k : Nat, k ≤ N ∧ i = .int .i64 k ∧ c = .bool (decide ((E0, E1, E2, E3) ∈ Z.take k)) ∧ Hid (LS w wr w1.heap.size W s n cg xs) ∧ Hid (SRow wr ao N Z) ∧ wr.cell? ⟨w4.heap.size, 0, none⟩ = some (.int .i64 E0) ∧ wr.cell? ⟨w4.heap.size, 1, none⟩ = some (.int .i64 E1) ∧ wr.cell? ⟨w4.heap.size, 2, none⟩ = some (.int .i64 E2) ∧ wr.cell? ⟨w4.heap.size, 3, none⟩ = some (.int .i64 E3)) (fun _ i _ => N - (intOf i).toNat)
  case atStart => exact ⟨0, Nat.zero_le _, rfl, by simp, P, o, t0, t1, t2, t3⟩
  case round =>
    clear P o t0 t1 t2 t3
    obtain ⟨k, hk, rfl, rfl, P, o, t0, t1, t2, t3⟩ := hrel
    have p0 := P.out.c0
    have p1 := P.out.c1
    obtain ⟨F, hF⟩ : ∃ F, decide ((E0, E1, E2, E3) ∈ Z.take k) = F := ⟨_, rfl⟩
    rw [hF]
    by_cases hlt : k < N
    · have hkZ : k < Z.length := hN.out.symm ▸ hlt
      obtain ⟨⟨A, B, C, D⟩, e⟩ : ∃ t, Z[k] = t := ⟨_, rfl⟩
      have hsucc := mem_take1 hkZ (E0, E1, E2, E3)
      rw [e] at hsucc
      obtain ⟨g, rfl, x0, x1, x2, x3⟩ := srow_at o.out hlt e
      have hfin : Hid (∀ q : Nat, ∀ b : Bool, decide ((E0, E1, E2, E3) ∈ Z.take (k + 1)) = b → ∃ k_1 : Nat, k_1 ≤ N ∧ Value.int .i64 ((k : Int) + 1) = .int .i64 k_1 ∧ Value.bool b = .bool (decide ((E0, E1, E2, E3) ∈ Z.take k_1)) ∧ Hid (LS w (wr.drewN q) w1.heap.size W s n cg xs) ∧ Hid (SRow (wr.drewN q) (some ⟨g, 0, none⟩) N Z) ∧ (wr.drewN q).cell? ⟨w4.heap.size, 0, none⟩ = some (.int .i64 E0) ∧ (wr.drewN q).cell? ⟨w4.heap.size, 1, none⟩ = some (.int .i64 E1) ∧ (wr.drewN q).cell? ⟨w4.heap.size, 2, none⟩ = some (.int .i64 E2) ∧ (wr.drewN q).cell? ⟨w4.heap.size, 3, none⟩ = some (.int .i64 E3)) := fun q b hb =>
        have hd : Below wr.heap.size wr (wr.drewN q) := below_drewN (Below.refl _ _) q
        ⟨k + 1, by omega, by go_num, by rw [hb], P.out.move hd, o.out.bel hd, kept hd (block_lt t0) t0, kept hd (block_lt t1) t1, kept hd (block_lt t2) t2, kept hd (block_lt t3) t3⟩
      cases F with
      | true =>
        have h1 : decide ((E0, E1, E2, E3) ∈ Z.take (k + 1)) = true := decide_eq_true (hsucc.2 (.inl (of_decide_eq_true hF)))
        replace h1 := Lib.hid h1
        clear hF hsucc e
        go_wp2_with fail
        go_quiet (fail)
        go_wp2_with fail
        exact ⟨hfin.out _ _ h1.out, by simp [intOf]; omega⟩
      | false =>
        have hno := of_decide_eq_false hF
        by_cases heq : (E0, E1, E2, E3) = (A, B, C, D)
        · have h1 : decide ((E0, E1, E2, E3) ∈ Z.take (k + 1)) = true := decide_eq_true (hsucc.2 (.inr heq))
          replace h1 := Lib.hid h1
          clear hF hsucc e hno
          simp only [Prod.mk.injEq] at heq
          obtain ⟨rfl, rfl, rfl, rfl⟩ := heq
          go_wp2_with fail
          go_quiet (fail)
          go_wp2_with fail
          exact ⟨hfin.out _ _ h1.out, by simp [intOf]; omega⟩
        · have h1 : decide ((E0, E1, E2, E3) ∈ Z.take (k + 1)) = false := decide_eq_false fun h => (hsucc.1 h).elim hno heq
          replace h1 := Lib.hid h1
          clear hF hsucc e hno
          simp only [Prod.mk.injEq] at heq
          by_cases n0 : E0 = A
          case neg =>
            clear heq
            have d0 : ((A : Int) == (E0 : Int)) = false := by simpa using (show ¬ (A : Int) = E0 by omega)
            have d0' : ((E0 : Int) == (A : Int)) = false := by simpa using (show ¬ (E0 : Int) = A by omega)
            have m0 : ¬ (A : Int) = (E0 : Int) := by omega
            have m0' : ¬ (E0 : Int) = (A : Int) := by omega
            clear n0
            go_wp2_with fail
            go_quiet (fail)
            go_wp2_with fail
            exact ⟨hfin.out _ _ h1.out, by simp [intOf]; omega⟩
          subst n0
          by_cases n1 : E1 = B
          case neg =>
            clear heq
            have d1 : ((B : Int) == (E1 : Int)) = false := by simpa using (show ¬ (B : Int) = E1 by omega)
            have d1' : ((E1 : Int) == (B : Int)) = false := by simpa using (show ¬ (E1 : Int) = B by omega)
            have m1 : ¬ (B : Int) = (E1 : Int) := by omega
            have m1' : ¬ (E1 : Int) = (B : Int) := by omega
            clear n1
            go_wp2_with fail
            go_quiet (fail)
            go_wp2_with fail
            exact ⟨hfin.out _ _ h1.out, by simp [intOf]; omega⟩
          subst n1
          by_cases n2 : E2 = C
          case neg =>
            clear heq
            have d2 : ((C : Int) == (E2 : Int)) = false := by simpa using (show ¬ (C : Int) = E2 by omega)
            have d2' : ((E2 : Int) == (C : Int)) = false := by simpa using (show ¬ (E2 : Int) = C by omega)
            have m2 : ¬ (C : Int) = (E2 : Int) := by omega
            have m2' : ¬ (E2 : Int) = (C : Int) := by omega
            clear n2
            go_wp2_with fail
            go_quiet (fail)
            go_wp2_with fail
            exact ⟨hfin.out _ _ h1.out, by simp [intOf]; omega⟩
          subst n2
          have n3 : ¬ E3 = D := fun h => heq ⟨rfl, rfl, rfl, h⟩
          clear heq
          have d3 : ((D : Int) == (E3 : Int)) = false := by simpa using (show ¬ (D : Int) = E3 by omega)
          have d3' : ((E3 : Int) == (D : Int)) = false := by simpa using (show ¬ (E3 : Int) = D by omega)
          have m3 : ¬ (D : Int) = (E3 : Int) := by omega
          have m3' : ¬ (E3 : Int) = (D : Int) := by omega
          clear n3
          go_wp2_with fail
          go_quiet (fail)
          go_wp2_with fail
          exact ⟨hfin.out _ _ h1.out, by simp [intOf]; omega⟩
    · have : k = N := by omega
      subst this
      have hFe : okB W xs E0 E1 E2 E3 = F := by rw [hend.out, ← hF, ← hN.out, List.take_length]
      clear hF
      have rp := Lib.hid P.out.row
      replace hFe := Lib.hid hFe
      go_wp2_with fail
      refine (ok_ok hFe.out (by omega) _ _ _ rp.out).mono ?_
      rintro e w9 ⟨rfl, hb⟩
      go_wp2_with fail
      go_ret
      exact ⟨rfl, P.out.bel.trans (hb.mono P.out.bel.size)⟩

set_option maxRecDepth 100000 in
theorem lifted (os : Os) (started : os.Started) (H : Type) (enc : TypeId × Value → H) :
    ReturnsInHanded {} Try.checked os 9 .any (Rows.fnSwitchListAllSpec.pre6 enc Try.prog Try.f9 Rows.fnSwitchListAllRow.domain false) (Rows.fnSwitchListAllSpec.post enc Try.prog Try.f9 false true false false) := by
  refine returnsInHanded_of_change (C := Try.checked) own started (by kernel_rfl) Try.func9
    (ChangeSpec.witness6 (enc := enc) (C := Try.checked) false ⟨#[], #[.slice none 0 0, .slice none 0 0], []⟩ 8 (by kernel_rfl) (by kernel_rfl) (by kernel_rfl) (by kernel_rfl)) ?_
  intro W base args ds gs before hval0 hW hcnd _
  have hval : ∀ (j : Nat) t v, Try.f9.params[j]? = some t → args[j]? = some v → Value.okWide Try.prog W .any base t v := hval0
  have hW' := hW
  obtain ⟨p, q, hA0, hV, rfl, hfz, hnd⟩ := hW
  have hA : DataW.TrodAll enc Try.prog W 0 (fun _ => true) true Try.f9.params.toList args.toList ds p := hA0
  rw [Try.params9] at hA hval
  obtain ⟨v0, vs0, d0, ds0, p0, q0, hargs, rfl, rfl, h0, r0⟩ := trodAll_cons hA
  obtain ⟨v1, vs1, d1, ds1, p1, q1, rfl, rfl, rfl, h1, r1⟩ := trodAll_cons r0
  obtain ⟨rfl, rfl, rfl⟩ := trodAll_nil r1
  obtain rfl : args = #[v0, v1] := by cases args; simp_all
  obtain ⟨rfl, rfl⟩ := trodVars_none hV
  have k0 := h0
  have lt0 : ∀ x ∈ p0, x.block < W.heap.size := by obtain ⟨m, hm⟩ := k0; exact DataW.trod_lt m _ _ _ hm
  obtain ⟨a0, len0, cap0, z0, rfl, w0, l0, m0⟩ := open_code (hval 0 22 v0 rfl rfl) h0
  have k1 := h1
  have lt1 : ∀ x ∈ p1, x.block < W.heap.size := by obtain ⟨m, hm⟩ := k1; exact DataW.trod_lt m _ _ _ hm
  obtain ⟨a1, len1, cap1, z1, rfl, w1, l1, m1⟩ := open_code (hval 1 22 v1 rfl rfl) h1
  clear hA0 hval0
  refine (walk a0 len0 cap0 z0 a1 len1 cap1 z1 W w0 l0 m0 w1 l1 m1).mono fun e W' ⟨he, bel⟩ => ?_
  subst he
  exact ⟨_, rfl, _, _, _, [], _, [], hW', trodAll_mk1 (shut_bool Try.underlying4 _), (trodAll_cons_mk (Below.trod laidOut (by kernel_rfl) (of_decide_eq_true (by kernel_rfl)) k0 bel lt0) (trodAll_cons_mk (Below.trod laidOut (by kernel_rfl) (of_decide_eq_true (by kernel_rfl)) k1 bel lt1) trodAll_mk0)), rfl, bel.frame _, fun h => by cases h⟩

theorem closed : joinedFacts Try.prog 9 Try.f9 Rows.fnSwitchListAllSpec Rows.fnSwitchListAllRow = true := by
  simp only [joinedFacts, Bool.and_eq_true]
  repeat' apply And.intro
  all_goals first | with_reducible exact mayEnterOk | (with_reducible rw [liftsFinalOk]; kernel_rfl) | (with_reducible rw [makeOk]; kernel_rfl) | kernel_rfl

theorem over : Rows.fnSwitchListAllRow.holds Try.pinned (OpenSpec.ofChange Rows.fnSwitchListAllSpec) :=
  OpenClaim.holds_of_wide 9 Try.f9 rfl rfl rfl rfl rfl rfl rfl ⟨rfl, rfl, rfl, rfl, rfl⟩ rfl rfl rfl rfl rfl (by kernel_rfl) Try.func9 closed
    (of_decide_eq_true (by kernel_rfl)) (by unfold Func.isWrapper; first | (rw [if_pos (by decide +kernel)]; kernel_rfl) | (rw [if_neg (by decide +kernel)]; exact ⟨rfl, rfl⟩))
    (fun os started H enc _ => lifted os started H enc)

theorem proved : Rows.FnSwitchListAllSaid := over
#print axioms proved
end Go.Proofs.Ytnibmcihklaigaa.LFSwitchListAll

