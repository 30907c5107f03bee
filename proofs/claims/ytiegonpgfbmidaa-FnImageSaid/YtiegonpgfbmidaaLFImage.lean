/-
  For any two slices of bytes the law FnImage answers true: parts of a valid image are images; nothing that was there is written; no condition.
-/
import Derived.Test.YtiegonpgfbmidaaO
import Derived.Test.YtiegonpgfbmidaaZ
import Derived.Test.YtiegonpgfbmidaaC
import Derived.Test.YtiegonpgfbmidaaEq
import Derived.Test.YtiegonpgfbmidaaTn
import Derived.Test.YtiegonpgfbmidaaAu
namespace Go.Proofs.Ytiegonpgfbmidaa.LFImage
open Go.ChangeShapes Go.WideShapes Go.ChangeAt Go.RowKit Go.Joins

theorem heldI {w W W' : World} {p0 p1 : Addr} {u0 u1 : Value} {a a' : Option Addr} {n n' : Nat} {xs xs' : List Int}
    (h : W.cell? p0 = some u0 ∧ W.cell? p1 = some u1 ∧ Row W a n xs ∧ Row W a' n' xs' ∧ Below w.heap.size w W) (hb : Below W.heap.size W W') :
    W'.cell? p0 = some u0 ∧ W'.cell? p1 = some u1 ∧ Row W' a n xs ∧ Row W' a' n' xs' ∧ Below w.heap.size w W' :=
  ⟨kept hb (block_lt h.1) h.1, kept hb (block_lt h.2.1) h.2.1, h.2.2.1.bel hb, h.2.2.2.1.bel hb, h.2.2.2.2.trans (hb.mono h.2.2.2.2.size)⟩

set_option maxHeartbeats 800000 in
theorem walk (a : Option Addr) (len cap : Nat) (zs : List Int) (a2 : Option Addr) (len2 cap2 : Nat) (zs2 : List Int) (w : World) (h : Bys w a len zs) (hl : len ≤ cap) (hm : cap ≤ 9223372036854775807) (_ : Bys w a2 len2 zs2) (_ : len2 ≤ cap2) (_ : cap2 ≤ 9223372036854775807) :
    Calls Try.prog 3 #[.slice a len cap, .slice a2 len2 cap2] w fun e w' => e = .returned (.bool true) ∧ Below w.heap.size w w' := by
  by_cases hbig : 1048576 < len
  · clear h
    go_enter Try.func3, Try.ntmps3
    go_wp2_with fail
    go_ret
    exact ⟨rfl, Below.refl _ _⟩
  by_cases hbig2 : 1048576 < len2
  · clear h
    go_enter Try.func3, Try.ntmps3
    go_wp2_with fail
    go_ret
    exact ⟨rfl, Below.refl _ _⟩
  go_enter Try.func3, Try.ntmps3
  go_wp2_with fail
  refine (draw_DrawImageValid a len cap zs _ h hl hm).mono ?_
  rintro e w1 ⟨W, s, n, cg, xs, rfl, hR, hn, hb1⟩
  clear h hl hm
  have hC := (Ctx.nil hb1).push (W := W) (cg := cg) hR
  clear hR hb1
  have b00 := hC.a0.c0
  have b01 := hC.a0.c1
  go_wp2_with fail
  refine (valid_impl W s n cg xs _ hC.a0.row (by omega)).mono ?_
  rintro e w2 ⟨rfl, hb⟩
  clear b00 b01
  replace hC := hC.move hb
  clear hb
  have b00 := hC.a0.c0
  have b01 := hC.a0.c1
  go_wp2_with fail
  refine (valid_spec W s n cg xs _ hC.a0.row (by omega)).mono ?_
  rintro e w3 ⟨rfl, hb⟩
  clear b00 b01
  replace hC := hC.move hb
  clear hb
  by_cases hv : validB W xs = true
  case neg =>
    rw [show validB W xs = false by simpa using hv]
    have b00 := hC.a0.c0
    have b01 := hC.a0.c1
    go_wp2_with fail
    go_ret
    exact ⟨rfl, hC.bel⟩
  rw [hv]
  have hI0 := validB_W hv
  obtain ⟨W, rfl⟩ := Int.eq_ofNat_of_zero_le (by omega : 0 ≤ W)
  have hI : Im W n xs := Im.of hv hC.a0.row.1
  have hW6 := hI.w6
  have hW1 := hI.w1
  have hn1 := hI.l1
  have k0 : len2 % n < n := Nat.mod_lt _ (by omega)
  have hmod : ((len2 : Int) % (n : Int)) = ((len2 % n : Nat) : Int) := (Int.natCast_emod _ _).symm
  generalize len2 % n = k at k0 hmod
  have hp63 := pw_63 hW6
  have hpp := pw_pos W
  obtain ⟨b, off, rfl, hcb⟩ := row_at hC.a0.row (show 0 < n by omega)
  have hbl : b < w3.heap.size := block_lt hcb
  obtain ⟨i0, hi, hz0, hz1, hz2⟩ := info_parts infoInt
  have hRow : Row _ (some ⟨b, off, none⟩) n xs := hC.a0.row
  obtain ⟨hrl, hrc⟩ := hRow
  obtain ⟨b', off', e', hrc⟩ := hrc.resolve_left (by omega)
  cases e'
  have hnews := Lib.hid (news_of hrl hrc)
  have hncg : n ≤ cg := hn.2
  have v1 := Lib.hid ((hI.take (k := k + 1) (by omega) (by omega)).valid)
  have v2 : validB 7 xs = false := validB_no1 (by rfl)
  have v2 := Lib.hid v2
  have v3 : validB W (xs.set k (pw W)) = false := validB_no3 k (by rw [List.length_set, hI.hl]; exact k0) (by rw [List.getD_eq_getElem?_getD, List.getElem?_set_self (by rw [hI.hl]; exact k0)]; simp only [Option.getD_some, Int.toNat_natCast]; exact inB_no (.inr (by omega)))
  have v3 := Lib.hid v3
  have hxl := hI.hl
  clear hrc hcb hI hI0 hv
  have hz3 : w1.heap.size < w3.heap.size := block_lt hC.a0.c0
  have hw3 : w.heap.size ≤ w3.heap.size := hC.bel.size
  have b00 := hC.a0.c0
  have b01 := hC.a0.c1
  go_wp2_with (at_builtin; refine wpList_append_own _ rfl _ _ 23 rfl w3.heap.size 3 i0 (.int .i64 0) 1 8 Try.underlying23 hi hz0 hz1 hz2 rfl (by decide) _ 0 [] rfl (World.ownsRow_lit w3 #[] 0 (Nat.le_refl _) (by decide) rfl) ⟨b, off, none⟩ n cg (xs.map (Value.int .i64)) rfl ?c1 ?c2 ?c3 ?c4 ?c5 ?c6 ?_)
  case c1 => simp [hxl]
  case c2 => exact fun j u hj => World.cell?_alloc_some (hnews.out j u hj)
  case c3 => exact ints_oneCell _ _
  case c4 => unfold maxLen; omega
  case c5 => omega
  case c6 => simp
  intro v' w4 hown hgr hnil
  clear b00 b01
  obtain ⟨sR, cR, rfl, ho⟩ := own_of (xs := xs) (n := n) (by simpa using hown)
  have hb4 : Below w3.heap.size w3 w4 := ((Below.refl _ _).alloc (Nat.le_refl _) _).grown hgr (by simp) (fun k hk => by simp [Value.ownBlock] at hk; omega)
  replace hC := hC.move hb4
  obtain ⟨g, rfl⟩ : ∃ g, sR = some ⟨g, 0, none⟩ := by
    rcases ho.cases with ⟨_, h, _⟩ | ⟨g, h, _⟩
    · omega
    · exact ⟨g, h⟩
  have hgb : w3.heap.size ≤ g := by
    rcases ho.cases with ⟨h, _⟩ | ⟨g', h, h2, _⟩
    · cases h
    · cases h; exact h2
  have hck := own_cell ho (i := k) k0
  have hfz := ho.frozen
  have hst := ho.set k (pw W)
  have hb3 := hC.bel
  have hab := hC.a0.c0
  clear hown hgr hnil hnews
  have b00 := hC.a0.c0
  have b01 := hC.a0.c1
  go_wp2_with (go_at_call 15; refine (pow2_any W _ (by omega)).mono ?_; rintro e w5 ⟨rfl, rfl⟩)
  have hg5 : w4.grownBy (w4.setCell ⟨g, k, none⟩ (.int .i64 (pw W))) (some g) := grown_set (World.grownBy.refl _ _)
  have q0 := hg5.cell b00 (by simp; omega)
  have q1 := hg5.cell b01 (by simp; omega)
  have ra : Row (w4.setCell ⟨g, k, none⟩ (.int .i64 (pw W))) (some ⟨b, off, none⟩) n xs := Row.apart hC.a0.row hg5 (fun b' o e _ => by cases e; simp; omega)
  have ro := hst.row
  have bb : Below w.heap.size w (w4.setCell ⟨g, k, none⟩ (.int .i64 (pw W))) := hb3.setCell (show w.heap.size ≤ g by omega) _
  generalize hys : xs.set k (pw W) = ys at ro v3
  generalize w4.setCell ⟨g, k, none⟩ (.int .i64 (pw W)) = W5 at q0 q1 ra ro bb ⊢
  have i1 : (0 : Int) ≤ 1 + (k : Int) := by omega
  have i2 : 1 + (k : Int) ≤ (cg : Int) := by omega
  have i3 : (1 + (k : Int)).toNat = k + 1 := by omega
  have i4 : IntKind.i64.wrap (1 + (k : Int)) = 1 + (k : Int) := IntWalk.i64_in _ ⟨by omega, by omega⟩
  clear hC b00 b01 hab hck hfz hst hg5 hys ho hb3 hb4
  go_region_held3 (fun W' => W'.cell? ⟨w1.heap.size, 0, none⟩ = some (.int .i64 W) ∧ W'.cell? ⟨w1.heap.size, 1, none⟩ = some (.slice (some ⟨b, off, none⟩) n cg) ∧ Row W' (some ⟨b, off, none⟩) n xs ∧ Row W' (some ⟨g, 0, none⟩) n ys ∧ Below w.heap.size w W')
    (first | exact heldI ⟨q0, q1, ra, ro, bb⟩ ((Below.refl _ _).drew) | (refine heldI ?_ (by assumption); assumption))
    (first | (go_at_call_of 13 (Value.int IntKind.i64 7); refine (valid_impl 7 (some ⟨b, off, none⟩) n cg xs _ ?_ (by omega)).mono ?_; (exact And.left (And.right (And.right ‹_ ∧ _ ∧ Row _ _ _ _ ∧ Row _ _ _ _ ∧ _›))); rw [v2.out]; rintro e w7 ⟨rfl, hb7⟩) | (go_at_call_of 13 (some (⟨g, 0, none⟩ : Addr)); refine (valid_impl W (some ⟨g, 0, none⟩) n cR ys _ ?_ (by omega)).mono ?_; (exact And.left (And.right (And.right (And.right ‹_ ∧ _ ∧ Row _ _ _ _ ∧ Row _ _ _ _ ∧ _›)))); rw [v3.out]; rintro e w8 ⟨rfl, hb8⟩) | (go_at_call 13; refine (valid_impl W (some ⟨b, off, none⟩) (k + 1) cg (xs.take (k + 1)) _ ?_ (by omega)).mono ?_; (exact Row.part (And.left (And.right (And.right ‹_ ∧ _ ∧ Row _ _ _ _ ∧ Row _ _ _ _ ∧ _›))) (by omega)); rw [v1.out]; rintro e w6 ⟨rfl, hb6⟩))
  go_wp2
  go_ret
  exact ⟨rfl, And.right (And.right (And.right (And.right ‹_ ∧ _ ∧ Row _ _ _ _ ∧ Row _ _ _ _ ∧ _›)))⟩

set_option maxRecDepth 100000 in
theorem lifted (os : Os) (started : os.Started) (H : Type) (enc : TypeId × Value → H) :
    ReturnsInHanded {} Try.checked os 3 .any (Rows.fnImageSpec.pre6 enc Try.prog Try.f3 Rows.fnImageRow.domain false) (Rows.fnImageSpec.post enc Try.prog Try.f3 false true false false) := by
  refine returnsInHanded_of_change (C := Try.checked) own started (by kernel_rfl) Try.func3
    (ChangeSpec.witness6 (enc := enc) (C := Try.checked) false ⟨#[], #[.slice none 0 0, .slice none 0 0], []⟩ 8 (by kernel_rfl) (by kernel_rfl) (by kernel_rfl) (by kernel_rfl)) ?_
  intro W base args ds gs before hval0 hW hcnd _
  have hval : ∀ (j : Nat) t v, Try.f3.params[j]? = some t → args[j]? = some v → Value.okWide Try.prog W .any base t v := hval0
  have hW' := hW
  obtain ⟨p, q, hA0, hV, rfl, hfz, hnd⟩ := hW
  have hA : DataW.TrodAll enc Try.prog W 0 (fun _ => true) true Try.f3.params.toList args.toList ds p := hA0
  rw [Try.params3] at hA hval
  obtain ⟨v0, vs0, d0, ds0, p0, q0, hargs, rfl, rfl, h0, r0⟩ := trodAll_cons hA
  obtain ⟨v1, vs1, d1, ds1, p1, q1, rfl, rfl, rfl, h1, r1⟩ := trodAll_cons r0
  obtain ⟨rfl, rfl, rfl⟩ := trodAll_nil r1
  obtain rfl : args = #[v0, v1] := by cases args; simp_all
  obtain ⟨rfl, rfl⟩ := trodVars_none hV
  have k0 := h0
  have lt0 : ∀ x ∈ p0, x.block < W.heap.size := by obtain ⟨m, hm⟩ := k0; exact DataW.trod_lt m _ _ _ hm
  obtain ⟨a0, len0, cap0, z0, rfl, w0, l0, m0⟩ := open_code (hval 0 22 v0 rfl rfl) h0
  have k1 := h1
  have lt1 : ∀ x ∈ p1, x.block < W.heap.size := by obtain ⟨m, hm⟩ := k1; exact DataW.trod_lt m _ _ _ hm
  obtain ⟨a1, len1, cap1, z1, rfl, w1, l1, m1⟩ := open_code (hval 1 22 v1 rfl rfl) h1
  clear hA0 hval0
  refine (walk a0 len0 cap0 z0 a1 len1 cap1 z1 W w0 l0 m0 w1 l1 m1).mono fun e W' ⟨he, bel⟩ => ?_
  subst he
  exact ⟨_, rfl, _, _, _, [], _, [], hW', trodAll_mk1 (shut_bool Try.underlying4 _), (trodAll_cons_mk (Below.trod laidOut (by kernel_rfl) (of_decide_eq_true (by kernel_rfl)) k0 bel lt0) (trodAll_cons_mk (Below.trod laidOut (by kernel_rfl) (of_decide_eq_true (by kernel_rfl)) k1 bel lt1) trodAll_mk0)), rfl, bel.frame _, fun h => by cases h⟩

theorem closed : joinedFacts Try.prog 3 Try.f3 Rows.fnImageSpec Rows.fnImageRow = true := by
  simp only [joinedFacts, Bool.and_eq_true]
  repeat' apply And.intro
  all_goals first | with_reducible exact mayEnterOk | (with_reducible rw [liftsFinalOk]; kernel_rfl) | (with_reducible rw [makeOk]; kernel_rfl) | kernel_rfl

theorem over : Rows.fnImageRow.holds Try.pinned (OpenSpec.ofChange Rows.fnImageSpec) :=
  OpenClaim.holds_of_wide 3 Try.f3 rfl rfl rfl rfl rfl rfl rfl ⟨rfl, rfl, rfl, rfl, rfl⟩ rfl rfl rfl rfl rfl (by kernel_rfl) Try.func3 closed
    (of_decide_eq_true (by kernel_rfl)) (by unfold Func.isWrapper; first | (rw [if_pos (by decide +kernel)]; kernel_rfl) | (rw [if_neg (by decide +kernel)]; exact ⟨rfl, rfl⟩))
    (fun os started H enc _ => lifted os started H enc)

theorem proved : Rows.FnImageSaid := over
#print axioms proved
end Go.Proofs.Ytiegonpgfbmidaa.LFImage

