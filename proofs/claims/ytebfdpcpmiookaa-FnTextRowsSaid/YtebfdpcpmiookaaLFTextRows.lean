/-
  For any two slices of bytes the law FnTextRows answers true: rows are written one by one; nothing that was there is written; no condition.
-/
import Derived.Test.YtebfdpcpmiookaaO
import Derived.Test.YtebfdpcpmiookaaZ
import Derived.Test.YtebfdpcpmiookaaTy
import Derived.Test.YtebfdpcpmiookaaTn
import Derived.Test.YtebfdpcpmiookaaN
namespace Go.Proofs.Ytebfdpcpmiookaa.LFTextRows
open Go.ChangeShapes Go.WideShapes Go.ChangeAt Go.RowKit Go.Joins

theorem heldOne {w W W' : World} {p0 p1 : Addr} {u0 u1 : Value} {a : Option Addr} {n : Nat} {xs : List Int}
    (h : W.cell? p0 = some u0 ∧ W.cell? p1 = some u1 ∧ Row W a n xs ∧ Below w.heap.size w W) (hb : Below W.heap.size W W') :
    W'.cell? p0 = some u0 ∧ W'.cell? p1 = some u1 ∧ Row W' a n xs ∧ Below w.heap.size w W' :=
  ⟨kept hb (block_lt h.1) h.1, kept hb (block_lt h.2.1) h.2.1, h.2.2.1.bel hb, h.2.2.2.trans (hb.mono h.2.2.2.size)⟩

set_option maxHeartbeats 800000 in
theorem walk (a : Option Addr) (len cap : Nat) (zs : List Int) (a2 : Option Addr) (len2 cap2 : Nat) (zs2 : List Int) (w : World) (h : Bys w a len zs) (hl : len ≤ cap) (hm : cap ≤ 9223372036854775807) (_ : Bys w a2 len2 zs2) (_ : len2 ≤ cap2) (_ : cap2 ≤ 9223372036854775807) :
    Calls Try.prog 10 #[.slice a len cap, .slice a2 len2 cap2] w fun e w' => e = .returned (.bool true) ∧ Below w.heap.size w w' := by
  by_cases hbig : 1048576 < len
  · clear h
    go_enter Try.func10, Try.ntmps10
    go_wp2_with fail
    go_ret
    exact ⟨rfl, Below.refl _ _⟩
  by_cases hbig2 : 1048576 < len2
  · clear h
    go_enter Try.func10, Try.ntmps10
    go_wp2_with fail
    go_ret
    exact ⟨rfl, Below.refl _ _⟩
  go_enter Try.func10, Try.ntmps10
  go_wp2_with fail
  refine (draw_DrawImageText a len cap zs _ h hl hm).mono ?_
  rintro e w1 ⟨W, s, n, cg, xs, rfl, hR, hn, hb1⟩
  clear h hl hm
  have hL := LS.mk0 (W := W) (cg := cg) hR hb1
  clear hR hb1
  go_wp2_with fail
  refine (text_impl W s n cg xs _ hL.row (by omega)).mono ?_
  rintro e w2 ⟨rfl, hb⟩
  have hL2 := hL.move hb
  have y0 := hL2.c0
  have y1 := hL2.c1
  clear hL hb
  go_wp2_with fail
  refine (text_spec W s n cg xs _ hL2.row (by omega)).mono ?_
  rintro e w3 ⟨rfl, hb⟩
  have hL3 := hL2.move hb
  clear hL2 hb y0 y1
  by_cases hv : validB W xs = true
  case neg =>
    rw [show textOf W xs = [] from if_neg hv]
    go_wp2_with fail
    go_ret
    exact ⟨rfl, hL3.bel⟩
  have hI0 := validB_W hv
  obtain ⟨W, rfl⟩ := Int.eq_ofNat_of_zero_le (by omega : 0 ≤ W)
  have hI := Im.of hv hL3.row.1
  have hW6 := hI.w6
  have hn1 := hI.l1
  have hT := text_txt hI
  have hTl := hT.len
  have hne := hT.ne
  have hkW : n * (W + 1) ≤ 6 * 7 := Nat.mul_le_mul (by omega) (by omega)
  have hparts := Lib.hid (fun k => hI.text_parts (k := k))
  obtain ⟨T, hT0⟩ : ∃ T, textOf W xs = T := ⟨_, rfl⟩
  rw [hT0] at hT hTl hne hparts ⊢
  have hT0 := Lib.hid hT0
  have hne1 : T.isEmpty = false := by simpa using hne
  have hlen : T.length ≤ 42 := by omega
  have hlt : len2 % n < n := Nat.mod_lt _ (by omega)
  have hmod : ((len2 : Int) % (n : Int)) = ((len2 % n : Nat) : Int) := (Int.natCast_emod _ _).symm
  generalize len2 % n = k at hlt hmod
  have hL3 := Lib.hid hL3
  have y0 := hL3.out.c0
  have y1 := hL3.out.c1
  clear hT hTl
  by_cases hk0 : k = 0
  · subst hk0
    go_wp2_with fail
    refine (text_impl W s n cg xs _ hL3.out.row (by omega)).mono ?_
    rintro e w4 ⟨rfl, hb⟩
    rw [hT0.out]
    have hL4 := Lib.hid (hL3.out.move hb)
    clear hL3 hb y0 y1
    go_wp2_with fail
    go_ret
    exact ⟨rfl, hL4.out.bel⟩
  · obtain ⟨b, off, rfl, _⟩ := row_at hL3.out.row (show 0 < n by omega)
    have hp := hparts.out k (by omega) hlt
    have h1 := hI.text
    obtain ⟨A, hA0⟩ : ∃ A, textOf W (xs.take k) = A := ⟨_, rfl⟩
    obtain ⟨B, hB0⟩ : ∃ B, textOf W (xs.drop k) = B := ⟨_, rfl⟩
    rw [hA0, hB0] at hp
    have hA := Lib.hid hA0
    have hB := Lib.hid hB0
    have hcat : (ByteArray.mk A.toArray) ++ (ByteArray.mk B.toArray) = ByteArray.mk T.toArray := by rw [str_app, hp]
    have hlA : A.length ≤ 42 := by have := congrArg List.length hp; simp at this; omega
    have hlB : B.length ≤ 42 := by have := congrArg List.length hp; simp at this; omega
    have hra := hL3.out.row
    have hbb := hL3.out.bel
    have hncg : n ≤ cg := hn.2
    have i1 : (0 : Int) ≤ (k : Int) := by omega
    have i2 : (k : Int) ≤ (cg : Int) := by omega
    have i3 : (k : Int) ≤ (n : Int) := by omega
    have i4 : (n : Int) ≤ (cg : Int) := by omega
    have i5 : k < cg := by omega
    have i6 : ¬ k = cg := by omega
    have j1 : ¬ 9223372036854775807 < A.length + B.length := by omega
    clear hp h1 hL3 hA0 hB0
    go_wp2_with fail
    go_region_held3 (fun W' => W'.cell? ⟨w1.heap.size, 0, none⟩ = some (.int .i64 W) ∧ W'.cell? ⟨w1.heap.size, 1, none⟩ = some (.slice (some ⟨b, off, none⟩) n cg) ∧ Row W' (some ⟨b, off, none⟩) n xs ∧ Below w.heap.size w W')
      (first | exact heldOne ⟨y0, y1, hra, hbb⟩ ((Below.refl _ _).drew) | (refine heldOne ?_ (by assumption); assumption))
      (first | (go_at_call_of 25 (some (⟨b, off, none⟩ : Addr)); refine (text_impl W (some ⟨b, off, none⟩) k cg (xs.take k) _ ?_ (by omega)).mono ?_; (exact Row.part (And.left (And.right (And.right ‹_ ∧ _ ∧ Row _ _ _ _ ∧ _›))) (by omega)); rw [hA.out]; rintro e w6 ⟨rfl, hb6⟩) | (go_at_call 25; refine (text_impl W (some ⟨b, off + k, none⟩) (n - k) (cg - k) (xs.drop k) _ ?_ (by omega)).mono ?_; (exact Row.rest (And.left (And.right (And.right ‹_ ∧ _ ∧ Row _ _ _ _ ∧ _›))) (by omega)); rw [hB.out]; rintro e w7 ⟨rfl, hb7⟩))
    go_wp2
    go_ret
    exact ⟨rfl, And.right (And.right (And.right ‹w7.cell? _ = _ ∧ _›))⟩

set_option maxRecDepth 100000 in
theorem lifted (os : Os) (started : os.Started) (H : Type) (enc : TypeId × Value → H) :
    ReturnsInHanded {} Try.checked os 10 .any (Rows.fnTextRowsSpec.pre6 enc Try.prog Try.f10 Rows.fnTextRowsRow.domain false) (Rows.fnTextRowsSpec.post enc Try.prog Try.f10 false true false false) := by
  refine returnsInHanded_of_change (C := Try.checked) own started (by kernel_rfl) Try.func10
    (ChangeSpec.witness6 (enc := enc) (C := Try.checked) false ⟨#[], #[.slice none 0 0, .slice none 0 0], []⟩ 8 (by kernel_rfl) (by kernel_rfl) (by kernel_rfl) (by kernel_rfl)) ?_
  intro W base args ds gs before hval0 hW hcnd _
  have hval : ∀ (j : Nat) t v, Try.f10.params[j]? = some t → args[j]? = some v → Value.okWide Try.prog W .any base t v := hval0
  have hW' := hW
  obtain ⟨p, q, hA0, hV, rfl, hfz, hnd⟩ := hW
  have hA : DataW.TrodAll enc Try.prog W 0 (fun _ => true) true Try.f10.params.toList args.toList ds p := hA0
  rw [Try.params10] at hA hval
  obtain ⟨v0, vs0, d0, ds0, p0, q0, hargs, rfl, rfl, h0, r0⟩ := trodAll_cons hA
  obtain ⟨v1, vs1, d1, ds1, p1, q1, rfl, rfl, rfl, h1, r1⟩ := trodAll_cons r0
  obtain ⟨rfl, rfl, rfl⟩ := trodAll_nil r1
  obtain rfl : args = #[v0, v1] := by cases args; simp_all
  obtain ⟨rfl, rfl⟩ := trodVars_none hV
  have k0 := h0
  have lt0 : ∀ x ∈ p0, x.block < W.heap.size := by obtain ⟨m, hm⟩ := k0; exact DataW.trod_lt m _ _ _ hm
  obtain ⟨a0, len0, cap0, z0, rfl, w0, l0, m0⟩ := open_code (hval 0 22 v0 rfl rfl) h0
  have k1 := h1
  have lt1 : ∀ x ∈ p1, x.block < W.heap.size := by obtain ⟨m, hm⟩ := k1; exact DataW.trod_lt m _ _ _ hm
  obtain ⟨a1, len1, cap1, z1, rfl, w1, l1, m1⟩ := open_code (hval 1 22 v1 rfl rfl) h1
  clear hA0 hval0
  refine (walk a0 len0 cap0 z0 a1 len1 cap1 z1 W w0 l0 m0 w1 l1 m1).mono fun e W' ⟨he, bel⟩ => ?_
  subst he
  exact ⟨_, rfl, _, _, _, [], _, [], hW', trodAll_mk1 (shut_bool Try.underlying4 _), (trodAll_cons_mk (Below.trod laidOut (by kernel_rfl) (of_decide_eq_true (by kernel_rfl)) k0 bel lt0) (trodAll_cons_mk (Below.trod laidOut (by kernel_rfl) (of_decide_eq_true (by kernel_rfl)) k1 bel lt1) trodAll_mk0)), rfl, bel.frame _, fun h => by cases h⟩

theorem closed : joinedFacts Try.prog 10 Try.f10 Rows.fnTextRowsSpec Rows.fnTextRowsRow = true := by
  simp only [joinedFacts, Bool.and_eq_true]
  repeat' apply And.intro
  all_goals first | with_reducible exact mayEnterOk | (with_reducible rw [liftsFinalOk]; kernel_rfl) | (with_reducible rw [makeOk]; kernel_rfl) | kernel_rfl

theorem over : Rows.fnTextRowsRow.holds Try.pinned (OpenSpec.ofChange Rows.fnTextRowsSpec) :=
  OpenClaim.holds_of_wide 10 Try.f10 rfl rfl rfl rfl rfl rfl rfl ⟨rfl, rfl, rfl, rfl, rfl⟩ rfl rfl rfl rfl rfl (by kernel_rfl) Try.func10 closed
    (of_decide_eq_true (by kernel_rfl)) (by unfold Func.isWrapper; first | (rw [if_pos (by decide +kernel)]; kernel_rfl) | (rw [if_neg (by decide +kernel)]; exact ⟨rfl, rfl⟩))
    (fun os started H enc _ => lifted os started H enc)

theorem proved : Rows.FnTextRowsSaid := over
#print axioms proved
end Go.Proofs.Ytebfdpcpmiookaa.LFTextRows

