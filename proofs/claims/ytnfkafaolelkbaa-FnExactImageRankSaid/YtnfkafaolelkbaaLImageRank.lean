/-
  For every image of the laws' own mirror type the law on ImageRank answers true, and nothing that was there is written; no condition.
-/
import Derived.Test.YtnfkafaolelkbaaF
import Derived.Test.YtnfkafaolelkbaaG
import Derived.Test.YtnfkafaolelkbaaBh
import Derived.Deep.RegionHeld3
namespace Go.Proofs.Ytnfkafaolelkbaa.LImageRank
set_option maxRecDepth 100000
open Go.ChangeShapes Go.WideShapes Go.ChangeAt Go.RowKit Go.Joins

theorem held {w W W' : World} {p0 p1 q0 q1 : Addr} {u0 u1 v0 v1 : Value} {a a' : Option Addr} {n n' : Nat} {xs xs' : List Int}
    (h : W.cell? p0 = some u0 ∧ W.cell? p1 = some u1 ∧ W.cell? q0 = some v0 ∧ W.cell? q1 = some v1 ∧ Row W a n xs ∧ Row W a' n' xs' ∧ Below w.heap.size w W) (hb : Below W.heap.size W W') :
    W'.cell? p0 = some u0 ∧ W'.cell? p1 = some u1 ∧ W'.cell? q0 = some v0 ∧ W'.cell? q1 = some v1 ∧ Row W' a n xs ∧ Row W' a' n' xs' ∧ Below w.heap.size w W' :=
  ⟨kept hb (block_lt h.1) h.1, kept hb (block_lt h.2.1) h.2.1, kept hb (block_lt h.2.2.1) h.2.2.1, kept hb (block_lt h.2.2.2.1) h.2.2.2.1, h.2.2.2.2.1.bel hb, h.2.2.2.2.2.1.bel hb, h.2.2.2.2.2.2.trans (hb.mono h.2.2.2.2.2.2.size)⟩

set_option maxHeartbeats 400000 in
theorem walk (W : Int) (a : Option Addr) (len cap : Nat) (xs : List Int) (w : World) (h : Row w a len xs) (hm : len ≤ 9223372036854775807) :
    Calls Try.prog 17 #[.agg #[.int .i64 W, .slice a len cap]] w fun e w' => e = .returned (.bool true) ∧ Below w.heap.size w w' := by
  by_cases hbig : 1048576 < len
  · go_enter Try.func17, Try.ntmps17
    go_wp2_with fail
    refine (szImage_any _ _ _ _ _ _ hm (by omega) (by omega)).mono ?_
    rintro e w1 ⟨rfl, hb⟩
    rw [if_pos (by omega)]
    go_wp2_with fail
    go_ret
    exact ⟨rfl, ((Below.refl _ _).alloc (Nat.le_refl _) _).trans (hb.mono (by simp))⟩
  have h0 : Row (w.alloc (.cells #[.int .i64 W, .slice a len cap] 50)) a len xs := h.alloc _
  go_enter Try.func17, Try.ntmps17
  go_wp2_with fail
  refine (szImage_any _ _ _ _ _ _ hm (by omega) (by omega)).mono ?_
  rintro e w1 ⟨rfl, hb1⟩
  rw [if_neg (by omega)]
  obtain ⟨hc1, hf1⟩ := bcell hb1
  have hz1 : w.heap.size < w1.heap.size := by have := hb1.size; simp at this; omega
  have h1 := h0.bel hb1
  have bb1 : Below w.heap.size w w1 := ((Below.refl _ _).alloc (Nat.le_refl _) _).trans (hb1.mono (by simp))
  clear hb1
  go_wp2_with fail
  refine (toImage_any _ _ _ _ xs _ h1 (by omega)).mono ?_
  rintro e w2 ⟨⟨g, rfl, hg, ho⟩, hb2⟩
  have r2 := ho.row
  have h2 := h1.bel hb2
  obtain ⟨hc2, hf2⟩ := bcell hb2
  have bb2 := bb1.trans (hb2.mono (by omega))
  have hz2 : w.heap.size < w2.heap.size := by have := hb2.size; omega
  clear ho hg hb2
  go_wp2_with fail
  refine (rank_spec _ _ _ _ xs _ r2 hm).mono ?_
  rintro e w3 ⟨rfl, hb3⟩
  have h3 := h2.bel hb3
  obtain ⟨hc3, hf3⟩ := bcell hb3
  have bb3 := bb2.trans (hb3.mono (by omega))
  have hz3 : w.heap.size < w3.heap.size := by have := hb3.size; omega
  clear hb3 r2
  go_wp2_with fail
  refine (toImage_any _ _ _ _ xs _ h3 (by omega)).mono ?_
  rintro e w4 ⟨⟨g', rfl, hg', ho⟩, hb4⟩
  have r4 := ho.row
  have h4 := h3.bel hb4
  obtain ⟨hc4, hf4⟩ := bcell hb4
  have bb4 := bb3.trans (hb4.mono (by omega))
  have hz4 : w.heap.size < w4.heap.size := by have := hb4.size; omega
  clear ho hg' hb4
  go_wp2_with fail
  refine (rank_impl _ _ _ _ xs _ (r4.alloc _) hm).mono ?_
  rintro e w5 ⟨rfl, hb5⟩
  have h5 := (h4.alloc _).bel hb5
  have r5 := (r4.alloc _).bel hb5
  obtain ⟨hc5, hf5⟩ := bcell hb5
  have bb5 := (bb4.alloc (by omega) _).trans (hb5.mono (by simp; omega))
  have hz5 : w4.heap.size < w5.heap.size := by have := hb5.size; simp at this; omega
  clear hb5
  go_wp2_with fail
  have x0 : w5.cell? ⟨w4.heap.size, 0, none⟩ = some (.int .i64 W) := by rw [hc5 _ _ (by simp)]; simp
  have x1 : w5.cell? ⟨w4.heap.size, 1, none⟩ = some (.slice (some ⟨g', 0, none⟩) len len) := by rw [hc5 _ _ (by simp)]; simp
  have y0 : w5.cell? ⟨w.heap.size, 0, none⟩ = some (.int .i64 W) := by go_simp
  have y1 : w5.cell? ⟨w.heap.size, 1, none⟩ = some (.slice a len cap) := by go_simp
  clear hc5 hc4 hc3 hc2 hc1 hf1 hf2 hf3 hf4 hf5 r4 h4 h3 h2 h1 bb1 bb2 bb3 bb4 hz1 hz2 hz3 hz4 hz5
  go_region_held3 (fun W' => W'.cell? ⟨w4.heap.size, 0, none⟩ = some (.int .i64 W) ∧ W'.cell? ⟨w4.heap.size, 1, none⟩ = some (.slice (some ⟨g', 0, none⟩) len len) ∧ W'.cell? ⟨w.heap.size, 0, none⟩ = some (.int .i64 W) ∧ W'.cell? ⟨w.heap.size, 1, none⟩ = some (.slice a len cap) ∧ Row W' a len xs ∧ Row W' (some ⟨g', 0, none⟩) len xs ∧ Below w.heap.size w W')
    (first | exact held ⟨x0, x1, y0, y1, h5, r5, bb5⟩ ((Below.refl _ _).drew) | (refine held ?_ (by assumption); assumption))
    (first | (go_at_call 45; refine (toImage_any _ _ _ _ xs _ ?_ (by omega)).mono ?_; (exact And.left (And.right (And.right (And.right (And.right ‹_ ∧ _ ∧ _ ∧ _ ∧ Row _ _ _ _ ∧ _›))))); rintro e w6 ⟨⟨g6, rfl, hg6, ho6⟩, hb6⟩) | (go_at_call 46; refine (eqImage_yes _ _ _ _ _ _ xs _ ?_ ?_ hm).mono ?_; (exact And.left (And.right (And.right (And.right (And.right (And.right ‹_ ∧ _ ∧ _ ∧ _ ∧ Row _ _ _ _ ∧ _›)))))); (exact OwnI.row ‹_›); rintro e w7 ⟨rfl, hb7⟩))
  go_wp2
  go_ret
  refine ⟨rfl, ?_⟩
  exact And.right (And.right (And.right (And.right (And.right (And.right ‹_ ∧ _ ∧ _ ∧ _ ∧ Row _ _ _ _ ∧ _›)))))

set_option maxRecDepth 100000 in
theorem lifted (os : Os) (started : os.Started) (H : Type) (enc : TypeId × Value → H) :
    ReturnsInHanded {} Try.checked os 17 .any (Rows.fnExactImageRankSpec.pre6 enc Try.prog Try.f17 Rows.fnExactImageRankRow.domain false) (Rows.fnExactImageRankSpec.post enc Try.prog Try.f17 false true false false) := by
  refine returnsInHanded_of_change (C := Try.checked) own started (by kernel_rfl) Try.func17
    (ChangeSpec.witness6 (enc := enc) (C := Try.checked) false ⟨#[], #[.agg #[.int .i64 0, .slice none 0 0]], []⟩ 8 (by kernel_rfl) (by kernel_rfl) (by kernel_rfl) (by kernel_rfl)) ?_
  intro W base args ds gs before hval0 hW hcnd _
  have hval : ∀ (j : Nat) t v, Try.f17.params[j]? = some t → args[j]? = some v → Value.okWide Try.prog W .any base t v := hval0
  have hW' := hW
  obtain ⟨p, q, hA0, hV, rfl, hfz, hnd⟩ := hW
  have hA : DataW.TrodAll enc Try.prog W 0 (fun _ => true) true Try.f17.params.toList args.toList ds p := hA0
  rw [Try.params17] at hA hval
  obtain ⟨v0, vs0, d0, ds0, p0, q0, hargs, rfl, rfl, h0, r0⟩ := trodAll_cons hA
  obtain ⟨rfl, rfl, rfl⟩ := trodAll_nil r0
  obtain rfl : args = #[v0] := by cases args; simp_all
  obtain ⟨rfl, rfl⟩ := trodVars_none hV
  have k0 := h0
  have lt0 : ∀ x ∈ p0, x.block < W.heap.size := by obtain ⟨m, hm⟩ := k0; exact DataW.trod_lt m _ _ _ hm
  obtain ⟨n0, a0, len0, cap0, z0, rfl, w0, m0⟩ := open_img (hval 0 50 v0 rfl rfl) h0
  clear hA0 hval0
  refine (walk n0 a0 len0 cap0 z0 W w0 m0).mono fun e W' ⟨he, bel⟩ => ?_
  subst he
  exact ⟨_, rfl, _, _, _, [], _, [], hW', trodAll_mk1 (shut_bool Try.underlying4 _), (trodAll_cons_mk (Below.trod laidOut (by kernel_rfl) (of_decide_eq_true (by kernel_rfl)) k0 bel lt0) trodAll_mk0), rfl, bel.frame _, fun h => by cases h⟩

theorem closed : joinedFacts Try.prog 17 Try.f17 Rows.fnExactImageRankSpec Rows.fnExactImageRankRow = true := by
  simp only [joinedFacts, Bool.and_eq_true]
  repeat' apply And.intro
  all_goals first | with_reducible exact mayEnterOk | (with_reducible rw [liftsFinalOk]; kernel_rfl) | (with_reducible rw [makeOk]; kernel_rfl) | kernel_rfl

theorem over : Rows.fnExactImageRankRow.holds Try.pinned (OpenSpec.ofChange Rows.fnExactImageRankSpec) :=
  OpenClaim.holds_of_wide 17 Try.f17 rfl rfl rfl rfl rfl rfl rfl ⟨rfl, rfl, rfl, rfl, rfl⟩ rfl rfl rfl rfl rfl (by kernel_rfl) Try.func17 closed
    (of_decide_eq_true (by kernel_rfl)) (by unfold Func.isWrapper; first | (rw [if_pos (by decide +kernel)]; kernel_rfl) | (rw [if_neg (by decide +kernel)]; exact ⟨rfl, rfl⟩))
    (fun os started H enc _ => lifted os started H enc)

theorem proved : Rows.FnExactImageRankSaid := over
#print axioms proved
end Go.Proofs.Ytnfkafaolelkbaa.LImageRank

