/-
  For every image of the laws' own mirror type the law on ImageNext answers true, and nothing that was there is written; no condition.
-/
import Derived.Test.YtnfkafaolelkbaaF
import Derived.Test.YtnfkafaolelkbaaG
import Derived.Test.YtnfkafaolelkbaaK
import Derived.Test.YtnfkafaolelkbaaBj
import Derived.Deep.RegionHeld3
namespace Go.Proofs.Ytnfkafaolelkbaa.LImageNext
set_option maxRecDepth 100000
open Go.ChangeShapes Go.WideShapes Go.ChangeAt Go.RowKit Go.Joins

theorem held {w W W' : World} {p0 p1 q0 q1 : Addr} {u0 u1 v0 v1 : Value} {a a' : Option Addr} {n n' : Nat} {xs xs' : List Int}
    (h : W.cell? p0 = some u0 ∧ W.cell? p1 = some u1 ∧ W.cell? q0 = some v0 ∧ W.cell? q1 = some v1 ∧ Row W a n xs ∧ Row W a' n' xs' ∧ Below w.heap.size w W) (hb : Below W.heap.size W W') :
    W'.cell? p0 = some u0 ∧ W'.cell? p1 = some u1 ∧ W'.cell? q0 = some v0 ∧ W'.cell? q1 = some v1 ∧ Row W' a n xs ∧ Row W' a' n' xs' ∧ Below w.heap.size w W' :=
  ⟨kept hb (block_lt h.1) h.1, kept hb (block_lt h.2.1) h.2.1, kept hb (block_lt h.2.2.1) h.2.2.1, kept hb (block_lt h.2.2.2.1) h.2.2.2.1, h.2.2.2.2.1.bel hb, h.2.2.2.2.2.1.bel hb, h.2.2.2.2.2.2.trans (hb.mono h.2.2.2.2.2.2.size)⟩

theorem nto_six (R C : List Int) (N : Int) : (nthO R C N).xs.length ≤ 6 := by
  unfold nthO
  split
  · rename_i h
    unfold ntB at h
    rw [Bool.and_eq_true, decide_eq_true_eq] at h
    have hs := sumsB_parts (ctdB_parts h.1).1
    show (nthS R C N.toNat).length ≤ 6
    rw [nth_len (by omega)]
    exact hs.1.2
  · simp [Out.no]
theorem nx_small (W : Int) (xs : List Int) : (nxO W xs).xs.length ≤ 1048576 := by
  have := nto_six (rsOut W xs) (csOut W xs) (rkO W xs + 1)
  unfold nxO
  omega
set_option maxHeartbeats 1000000 in
theorem walk (W : Int) (a : Option Addr) (len cap : Nat) (xs : List Int) (w : World) (h : Row w a len xs) (hm : len ≤ 9223372036854775807) :
    Calls Try.prog 19 #[.agg #[.int .i64 W, .slice a len cap]] w fun e w' => e = .returned (.bool true) ∧ Below w.heap.size w w' := by
  have hl := h.1
  by_cases hbig : 1048576 < len
  · go_enter Try.func19, Try.ntmps19
    go_wp2_with fail
    refine (szImage_any _ _ _ _ _ _ hm (by omega) (by omega)).mono ?_
    rintro e w1 ⟨rfl, hb⟩
    rw [if_pos (by omega)]
    go_wp2_with fail
    go_ret
    exact ⟨rfl, ((Below.refl _ _).alloc (Nat.le_refl _) _).trans (hb.mono (by simp))⟩
  obtain ⟨R, hRe⟩ : ∃ R : Out, R = nxO W xs := ⟨_, rfl⟩
  have hR : R.xs.length ≤ 1048576 := by rw [hRe]; exact nx_small W xs
  have CS : ∀ (a : Option Addr) (cap : Nat) (w : World), Row w a len xs → Calls Try.prog 37 #[.agg #[.int .i64 W, .slice a len cap]] w (Gives w R) := by
    intro a cap w h; rw [hRe]; exact next_spec W a len cap xs w h hm
  have CI : ∀ (a : Option Addr) (cap : Nat) (w : World), Row w a len xs → Calls Try.prog 36 #[.agg #[.int .i64 W, .slice a len cap]] w (Gives w R) := by
    intro a cap w h; rw [hRe]; exact next_impl W a len cap xs w h hm
  have DS := Lib.hid CS
  have DI := Lib.hid CI
  clear CS CI hRe
  have h0 : Row (w.alloc (.cells #[.int .i64 W, .slice a len cap] 50)) a len xs := h.alloc _
  go_enter Try.func19, Try.ntmps19
  go_wp2_with fail
  refine (szImage_any _ _ _ _ _ _ hm (by omega) (by omega)).mono ?_
  rintro e w1 ⟨rfl, hb1⟩
  rw [if_neg (by omega)]
  have bb1 : Below w.heap.size w w1 := ((Below.refl _ _).alloc (Nat.le_refl _) _).trans (hb1.mono (by simp))
  have h1 := h0.bel hb1
  have a0 : w1.cell? ⟨w.heap.size, 0, none⟩ = some (.int .i64 W) := kept hb1 (by simp) (by simp)
  have a1 : w1.cell? ⟨w.heap.size, 1, none⟩ = some (.slice a len cap) := kept hb1 (by simp) (by simp)
  clear hb1 h0
  go_wp2_with fail
  refine (toImage_any _ _ _ _ xs _ h1 (by omega)).mono ?_
  rintro e w2 ⟨⟨g, rfl, hg, ho⟩, hb2⟩
  have r2 := ho.row
  have h2 := h1.bel hb2
  have a0 := kept hb2 (block_lt a0) a0
  have a1 := kept hb2 (block_lt a1) a1
  have bb2 := bb1.trans (hb2.mono bb1.size)
  clear ho hg hb2 h1 bb1
  go_wp2_with fail
  refine (DS.out _ _ _ r2).mono ?_
  rintro e w3 ⟨⟨aw, cw, rfl, ow⟩, hb3⟩
  have h3 := h2.bel hb3
  have a0 := kept hb3 (block_lt a0) a0
  have a1 := kept hb3 (block_lt a1) a1
  have bb3 := bb2.trans (hb3.mono bb2.size)
  have z3 : w.heap.size < w3.heap.size := block_lt a0
  clear hb3 r2 h2 bb2
  go_wp2_with fail
  refine (toImage_any _ _ _ _ xs _ (h3.alloc _) (by omega)).mono ?_
  rintro e w4 ⟨⟨gx, rfl, hgx, ox⟩, hb4⟩
  have hgx : w3.heap.size + 1 ≤ gx := by simpa using hgx
  have hgx4 : gx < w4.heap.size := own_lt ox
  have h4 := (h3.alloc (.cells #[.int .i64 R.W, .slice aw R.xs.length cw] 30)).bel hb4
  have a0 := kept hb4 (by have := block_lt a0; simp at this ⊢; omega) (World.cell?_alloc_some a0)
  have a1 := kept hb4 (by have := block_lt a1; simp at this ⊢; omega) (World.cell?_alloc_some a1)
  have b0 : w4.cell? ⟨w3.heap.size, 0, none⟩ = some (.int .i64 R.W) := kept hb4 (by simp) (by simp)
  have b1 : w4.cell? ⟨w3.heap.size, 1, none⟩ = some (.slice aw R.xs.length cw) := kept hb4 (by simp) (by simp)
  have rw4 := (ow.row.alloc (.cells #[.int .i64 R.W, .slice aw R.xs.length cw] 30)).bel hb4
  have s3 := bb3.size
  have s4 : w3.heap.size + 1 ≤ w4.heap.size := by have := hb4.size; simpa using this
  have bb4 := (bb3.alloc s3 (.cells #[.int .i64 R.W, .slice aw R.xs.length cw] 30)).trans (hb4.mono (by simp; omega))
  have fa : ∀ b off, a = some ⟨b, off, none⟩ → 0 < len → b < w3.heap.size + 1 := fun b off e hl => by have := row_lt h3 b off e hl; omega
  have fw : ∀ b off, aw = some ⟨b, off, none⟩ → 0 < R.xs.length → b < w3.heap.size + 1 := fun b off e hl => by have := row_lt ow.row b off e hl; omega
  have z4 : w3.heap.size < w4.heap.size := by omega
  have z4' : w.heap.size < w4.heap.size := by omega
  clear hb4 h3 ow bb3
  go_wp2_with fail
  refine (DI.out _ _ _ (ox.row.alloc _)).mono ?_
  rintro e w5 ⟨⟨ag, cg, rfl, og⟩, hb5⟩
  have hnx : ∀ g, ag = some ⟨g, 0, none⟩ → w5.heap.size ≠ g := fun g e => by subst e; have := own_lt og; omega
  have s5 : w4.heap.size + 1 ≤ w5.heap.size := by have := hb5.size; simpa using this
  have z5 : w4.heap.size < w5.heap.size := by omega
  have z5' : w3.heap.size < w5.heap.size := by omega
  have z5'' : w.heap.size < w5.heap.size := by omega
  have hb6 : Below (w4.alloc (.cells #[.int .i64 W, .slice (some ⟨gx, 0, none⟩) len len] 30)).heap.size (w4.alloc (.cells #[.int .i64 W, .slice (some ⟨gx, 0, none⟩) len len] 30)) (w5.alloc (.cells #[.int .i64 R.W, .slice ag R.xs.length cg] 30)) := hb5.alloc hb5.size _
  have ox6 := (ox.bel ((Below.refl _ _).alloc (Nat.le_refl _) (.cells #[.int .i64 W, .slice (some ⟨gx, 0, none⟩) len len] 30))).bel hb6
  have og6 := og.bel ((Below.refl _ _).alloc (Nat.le_refl _) (.cells #[.int .i64 R.W, .slice ag R.xs.length cg] 30))
  have S : St w (w5.alloc (.cells #[.int .i64 R.W, .slice ag R.xs.length cg] 30)) w.heap.size w3.heap.size w4.heap.size w5.heap.size W a len cap xs R aw cw (w3.heap.size + 1) gx xs (w4.heap.size + 1) ag cg R.xs :=
    ⟨kept hb6 (by have := block_lt a0; simp at this ⊢; omega) (World.cell?_alloc_some a0), kept hb6 (by have := block_lt a1; simp at this ⊢; omega) (World.cell?_alloc_some a1),
      kept hb6 (by have := block_lt b0; simp at this ⊢; omega) (World.cell?_alloc_some b0), kept hb6 (by have := block_lt b1; simp at this ⊢; omega) (World.cell?_alloc_some b1),
      kept hb6 (by simp) (by simp), kept hb6 (by simp) (by simp), by simp, by simp, (h4.alloc _).bel hb6, (rw4.alloc _).bel hb6, by simpa using ox6, by simpa using og6,
      (bb4.alloc bb4.size _).trans (hb6.mono (by have := bb4.size; simp; omega)), fa, fw, ⟨hgx, by omega, by omega⟩, ⟨by have := block_lt a0; simp at this; omega, by omega, by omega, by omega, by omega, hnx⟩⟩
  clear a0 a1 b0 b1 rw4 h4 ox og bb4 hb6 ox6 og6 fa fw hnx
  have g0 := S.g0
  have g1 := S.g1
  have b0 := S.w0
  have b1 := S.w1
  go_wp2_with fail
  refine (eqImage_yes _ _ _ _ _ _ R.xs _ S.og.row S.rw (by omega)).mono ?_
  rintro e w7 ⟨rfl, hb⟩
  have S := S.move hb
  clear hb g0 g1 b0 b1
  have x0 := S.x0
  have x1 := S.x1
  have y0 := S.a0
  have y1 := S.a1
  go_wp2_with fail
  go_region_held3 (fun W' => W'.cell? ⟨w4.heap.size, 0, none⟩ = some (.int .i64 W) ∧ W'.cell? ⟨w4.heap.size, 1, none⟩ = some (.slice (some ⟨gx, 0, none⟩) len len) ∧ W'.cell? ⟨w.heap.size, 0, none⟩ = some (.int .i64 W) ∧ W'.cell? ⟨w.heap.size, 1, none⟩ = some (.slice a len cap) ∧ Row W' a len xs ∧ Row W' (some ⟨gx, 0, none⟩) len xs ∧ Below w7.heap.size w7 W')
    (first | exact held ⟨x0, x1, y0, y1, S.ra, S.ox.row, Below.refl _ _⟩ ((Below.refl _ _).drew) | (refine held ?_ (by assumption); assumption))
    (first | (go_at_call 45; refine (toImage_any _ _ _ _ xs _ ?_ (by omega)).mono ?_; (exact And.left (And.right (And.right (And.right (And.right ‹_ ∧ _ ∧ _ ∧ _ ∧ Row _ _ _ _ ∧ _›))))); rintro e w8a ⟨⟨g6, rfl, hg6, ho6⟩, hb6⟩) | (go_at_call 46; refine (eqImage_yes _ _ _ _ _ _ xs _ ?_ ?_ hm).mono ?_; (exact And.left (And.right (And.right (And.right (And.right (And.right ‹_ ∧ _ ∧ _ ∧ _ ∧ Row _ _ _ _ ∧ _›)))))); (exact OwnI.row ‹_›); rintro e w8 ⟨rfl, hb7⟩))
  have hbl : Below w7.heap.size w7 w8 := And.right (And.right (And.right (And.right (And.right (And.right ‹w8.cell? _ = _ ∧ _›)))))
  have S := S.move hbl
  clear x0 x1 y0 y1 hbl hb6 ho6 hb7
  have x0 := S.x0
  have x1 := S.x1
  go_wp2_with fail
  refine (markImage_own _ _ _ _ _ xs 1 _ S.ox (by omega) (by omega) (by omega)).mono ?_
  rintro e w9 ⟨rfl, hgr, ho⟩
  have S := S.markx hgr ho
  clear hgr ho x0 x1
  have g0 := S.g0
  have g1 := S.g1
  have b0 := S.w0
  have b1 := S.w1
  go_wp2_with fail
  refine (eqImage_yes _ _ _ _ _ _ R.xs _ S.og.row S.rw (by omega)).mono ?_
  rintro e w10 ⟨rfl, hb⟩
  have S := S.move hb
  clear hb g0 g1 b0 b1
  have g0 := S.g0
  have g1 := S.g1
  go_wp2_with fail
  refine (markImage_own _ _ _ _ _ R.xs 1 _ S.og hR (by omega) (by omega)).mono ?_
  rintro e w11 ⟨rfl, hgr, ho⟩
  have S := S.markg hgr ho
  clear hgr ho g0 g1
  have g0 := S.g0
  have g1 := S.g1
  go_wp2_with fail
  refine (heldImage_any _ _ _ _ 1 _ S.og.row hR (by omega) (by omega)).mono ?_
  rintro e w12 ⟨rfl, hb⟩
  have S := S.move hb
  clear hb g0 g1
  have y0 := S.a0
  have y1 := S.a1
  go_wp2_with fail
  refine (toImage_any _ _ _ _ xs _ S.ra (by omega)).mono ?_
  rintro e w13 ⟨⟨g13, rfl, hg13, o13⟩, hb⟩
  have S := S.move hb
  have r13 := o13.row
  clear hb y0 y1 hg13 o13
  go_wp2_with fail
  refine (DI.out _ _ _ r13).mono ?_
  rintro e w14 ⟨⟨ah, ch, rfl, oh⟩, hb⟩
  have S := S.move hb
  have b0 := S.w0
  have b1 := S.w1
  have q1 : w3.heap.size < w14.heap.size := block_lt b0
  have q2 : w5.heap.size < w14.heap.size := block_lt S.g0
  clear hb r13
  go_wp2_with fail
  have S := S.move ((Below.refl _ _).alloc (Nat.le_refl _) (.cells #[.int .i64 R.W, .slice ah R.xs.length ch] 30))
  refine (eqImage_yes _ _ _ _ _ _ R.xs _ (oh.row.alloc _) S.rw (by omega)).mono ?_
  rintro e w15 ⟨rfl, hb⟩
  have S := S.move hb
  clear hb b0 b1 oh q1 q2
  have g0 := S.g0
  have g1 := S.g1
  go_wp2_with fail
  refine (heldImage_any _ _ _ _ 1 _ S.og.row hR (by omega) (by omega)).mono ?_
  rintro e w16 ⟨rfl, hb⟩
  have S := S.move hb
  clear hb g0 g1
  go_wp2_with fail
  go_ret
  exact ⟨rfl, S.bel⟩

set_option maxRecDepth 100000 in
theorem lifted (os : Os) (started : os.Started) (H : Type) (enc : TypeId × Value → H) :
    ReturnsInHanded {} Try.checked os 19 .any (Rows.fnExactImageNextSpec.pre6 enc Try.prog Try.f19 Rows.fnExactImageNextRow.domain false) (Rows.fnExactImageNextSpec.post enc Try.prog Try.f19 false true false false) := by
  refine returnsInHanded_of_change (C := Try.checked) own started (by kernel_rfl) Try.func19
    (ChangeSpec.witness6 (enc := enc) (C := Try.checked) false ⟨#[], #[.agg #[.int .i64 0, .slice none 0 0]], []⟩ 8 (by kernel_rfl) (by kernel_rfl) (by kernel_rfl) (by kernel_rfl)) ?_
  intro W base args ds gs before hval0 hW hcnd _
  have hval : ∀ (j : Nat) t v, Try.f19.params[j]? = some t → args[j]? = some v → Value.okWide Try.prog W .any base t v := hval0
  have hW' := hW
  obtain ⟨p, q, hA0, hV, rfl, hfz, hnd⟩ := hW
  have hA : DataW.TrodAll enc Try.prog W 0 (fun _ => true) true Try.f19.params.toList args.toList ds p := hA0
  rw [Try.params19] at hA hval
  obtain ⟨v0, vs0, d0, ds0, p0, q0, hargs, rfl, rfl, h0, r0⟩ := trodAll_cons hA
  obtain ⟨rfl, rfl, rfl⟩ := trodAll_nil r0
  obtain rfl : args = #[v0] := by cases args; simp_all
  obtain ⟨rfl, rfl⟩ := trodVars_none hV
  have k0 := h0
  have lt0 : ∀ x ∈ p0, x.block < W.heap.size := by obtain ⟨m, hm⟩ := k0; exact DataW.trod_lt m _ _ _ hm
  obtain ⟨n0, a0, len0, cap0, z0, rfl, w0, m0⟩ := open_img (hval 0 50 v0 rfl rfl) h0
  clear hA0 hval0
  refine (walk n0 a0 len0 cap0 z0 W w0 m0).mono fun e W' ⟨he, bel⟩ => ?_
  subst he
  exact ⟨_, rfl, _, _, _, [], _, [], hW', trodAll_mk1 (shut_bool Try.underlying4 _), (trodAll_cons_mk (Below.trod laidOut (by kernel_rfl) (of_decide_eq_true (by kernel_rfl)) k0 bel lt0) trodAll_mk0), rfl, bel.frame _, fun h => by cases h⟩

theorem closed : joinedFacts Try.prog 19 Try.f19 Rows.fnExactImageNextSpec Rows.fnExactImageNextRow = true := by
  simp only [joinedFacts, Bool.and_eq_true]
  repeat' apply And.intro
  all_goals first | with_reducible exact mayEnterOk | (with_reducible rw [liftsFinalOk]; kernel_rfl) | (with_reducible rw [makeOk]; kernel_rfl) | kernel_rfl

theorem over : Rows.fnExactImageNextRow.holds Try.pinned (OpenSpec.ofChange Rows.fnExactImageNextSpec) :=
  OpenClaim.holds_of_wide 19 Try.f19 rfl rfl rfl rfl rfl rfl rfl ⟨rfl, rfl, rfl, rfl, rfl⟩ rfl rfl rfl rfl rfl (by kernel_rfl) Try.func19 closed
    (of_decide_eq_true (by kernel_rfl)) (by unfold Func.isWrapper; first | (rw [if_pos (by decide +kernel)]; kernel_rfl) | (rw [if_neg (by decide +kernel)]; exact ⟨rfl, rfl⟩))
    (fun os started H enc _ => lifted os started H enc)

theorem proved : Rows.FnExactImageNextSaid := over
#print axioms proved
end Go.Proofs.Ytnfkafaolelkbaa.LImageNext

