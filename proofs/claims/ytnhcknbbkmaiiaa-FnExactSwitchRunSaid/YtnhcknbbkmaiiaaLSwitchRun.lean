/-
  For every image and every list of switches the law on SwitchRun answers true, and nothing that was there is written; no condition.
-/
import Derived.Test.YtnhcknbbkmaiiaaF
import Derived.Test.YtnhcknbbkmaiiaaG
import Derived.Test.YtnhcknbbkmaiiaaK
import Derived.Test.YtnhcknbbkmaiiaaKp
import Derived.Test.YtnhcknbbkmaiiaaWg
import Derived.Deep.RegionHeld3
namespace Go.Proofs.Ytnhcknbbkmaiiaa.LSwitchRun
set_option maxRecDepth 100000
open Go.ChangeShapes Go.WideShapes Go.ChangeAt Go.RowKit Go.Joins

theorem held {w W W' : World} {p0 p1 q0 q1 : Addr} {u0 u1 v0 v1 : Value} {a a' : Option Addr} {n n' : Nat} {xs xs' : List Int}
    (h : W.cell? p0 = some u0 ∧ W.cell? p1 = some u1 ∧ W.cell? q0 = some v0 ∧ W.cell? q1 = some v1 ∧ Row W a n xs ∧ Row W a' n' xs' ∧ Below w.heap.size w W) (hb : Below W.heap.size W W') :
    W'.cell? p0 = some u0 ∧ W'.cell? p1 = some u1 ∧ W'.cell? q0 = some v0 ∧ W'.cell? q1 = some v1 ∧ Row W' a n xs ∧ Row W' a' n' xs' ∧ Below w.heap.size w W' :=
  ⟨kept hb (block_lt h.1) h.1, kept hb (block_lt h.2.1) h.2.1, kept hb (block_lt h.2.2.1) h.2.2.1, kept hb (block_lt h.2.2.2.1) h.2.2.2.1, h.2.2.2.2.1.bel hb, h.2.2.2.2.2.1.bel hb, h.2.2.2.2.2.2.trans (hb.mono h.2.2.2.2.2.2.size)⟩

theorem run_small (V : Int) (xs : List Int) (L : List SwQ) : (runOut V xs L).xs.length ≤ 1048576 := by
  rcases runOut_im (V := V) (xs := xs) rfl (L := L) with h | ⟨K, ys, rfl, hI, hr, hy⟩
  · rw [h]; simp [Out.no]
  · rw [runOut_yes hI hr]
    have h1 := hy.hl
    have h2 := hI.l6
    show ys.length ≤ _
    omega
theorem St.other {w W' W'' : World} {h0 hw hx hg : Nat} {Wa : Int} {a : Option Addr} {len cap : Nat} {xs : List Int} {R : Out} {aw : Option Addr} {cw BX gx : Nat} {xc : List Int} {BG : Nat} {ag : Option Addr} {cg : Nat} {gc : List Int} {gq : Nat}
    (S : St w W' h0 hw hx hg Wa a len cap xs R aw cw BX gx xc BG ag cg gc) (h : W'.grownBy W'' (some gq)) (c1 : BX ≤ gq) (c2 : gq ≠ gx) (c3 : gq ≠ hx) (c4 : gq ≠ hg) (c5 : gq < BG) : St w W'' h0 hw hx hg Wa a len cap xs R aw cw BX gx xc BG ag cg gc := by
  have n1 := S.n1
  have n2 := S.n2
  refine ⟨h.cell S.a0 (by simp; omega), h.cell S.a1 (by simp; omega), h.cell S.w0 (by simp; omega), h.cell S.w1 (by simp; omega), h.cell S.x0 (by simp; omega), h.cell S.x1 (by simp; omega), h.cell S.g0 (by simp; omega), h.cell S.g1 (by simp; omega),
    S.ra.apart h (fun b off e hl => by have := S.fa b off e hl; simp; omega), S.rw.apart h (fun b off e hl => by have := S.fw b off e hl; simp; omega), World.ownsRow.kept S.ox h (.inr (show some gx ≠ some gq from fun e => c2 (Option.some.inj e).symm)), S.og.other h c5,
    S.bel.trans ((grown_below h).mono (by have := S.bel.size; omega)), S.fa, S.fw, S.n1, S.n2⟩

set_option maxHeartbeats 1000000 in
theorem walk (W : Int) (a : Option Addr) (len cap : Nat) (xs : List Int) (al : Option Addr) (N cl : Nat) (L : List SwQ) (w : World) (h : Row w a len xs) (hm : len ≤ 9223372036854775807) (hq : QRow w al N L) (hmq : N ≤ 9223372036854775807) :
    Calls Try.prog 16 #[.agg #[.int .i64 W, .slice a len cap], .slice al N cl] w fun e w' => e = .returned (.bool true) ∧ Below w.heap.size w w' := by
  have hl := h.1
  by_cases hbig : 1048576 < len
  · go_enter Try.func16, Try.ntmps16
    go_wp2_with fail
    refine (szImage_any _ _ _ _ _ _ hm (by omega) (by omega)).mono ?_
    rintro e w1 ⟨rfl, hb⟩
    rw [if_pos (by omega)]
    go_wp2_with fail
    go_ret
    exact ⟨rfl, ((Below.refl _ _).alloc (Nat.le_refl _) _).trans (hb.mono (by simp))⟩
  by_cases hbig2 : 1048576 < len + N
  · go_enter Try.func16, Try.ntmps16
    go_wp2_with fail
    refine (szImage_any _ _ _ _ _ _ hm (by omega) (by omega)).mono ?_
    rintro e w1 ⟨rfl, hb⟩
    rw [if_neg (by omega)]
    go_wp2_with fail
    refine (szS_any _ _ _ _ _ (by omega) (by omega) hmq).mono ?_
    rintro e w1b ⟨rfl, hbb⟩
    rw [if_neg (by omega)]
    go_wp2_with fail
    go_ret
    exact ⟨rfl, (((Below.refl _ _).alloc (Nat.le_refl _) _).trans (hb.mono (by simp))).trans (hbb.mono (by have := hb.size; simp at this; omega))⟩
  obtain ⟨R, hRe⟩ : ∃ R : Out, R = runOut W xs L := ⟨_, rfl⟩
  have hR : R.xs.length ≤ 1048576 := by rw [hRe]; exact run_small W xs L
  have CS : ∀ (a al : Option Addr) (cap cl : Nat) (w : World), Row w a len xs → QRow w al N L → Calls Try.prog 59 #[.agg #[.int .i64 W, .slice a len cap], .slice al N cl] w (Gives w R) := by
    intro a al cap cl w h hq; rw [hRe]; exact run_spec W a al len cap N cl xs L w h hq hm (by omega)
  have CI : ∀ (a al : Option Addr) (cap cl : Nat) (w : World), Row w a len xs → QRow w al N L → Calls Try.prog 62 #[.agg #[.int .i64 W, .slice a len cap], .slice al N cl] w (Gives w R) := by
    intro a al cap cl w h hq; rw [hRe]; exact run_impl W a al len cap N cl xs L w h hq hm (by omega)
  have DS := Lib.hid CS
  have DI := Lib.hid CI
  clear CS CI hRe
  have hQ := Lib.hid hq
  clear hq
  have h0 : Row (w.alloc (.cells #[.int .i64 W, .slice a len cap] 53)) a len xs := h.alloc _
  go_enter Try.func16, Try.ntmps16
  go_wp2_with fail
  refine (szImage_any _ _ _ _ _ _ hm (by omega) (by omega)).mono ?_
  rintro e w1 ⟨rfl, hb1⟩
  rw [if_neg (by omega)]
  have bb1 : Below w.heap.size w w1 := ((Below.refl _ _).alloc (Nat.le_refl _) _).trans (hb1.mono (by simp))
  have h1 := h0.bel hb1
  have a0 : w1.cell? ⟨w.heap.size, 0, none⟩ = some (.int .i64 W) := kept hb1 (by simp) (by simp)
  have a1 : w1.cell? ⟨w.heap.size, 1, none⟩ = some (.slice a len cap) := kept hb1 (by simp) (by simp)
  clear hb1 h0
  go_wp2_with fail
  refine (szS_any _ _ _ _ _ (by omega) (by omega) hmq).mono ?_
  rintro e w1b ⟨rfl, hb1⟩
  rw [if_pos (by omega)]
  have h1 := h1.bel hb1
  have a0 := kept hb1 (block_lt a0) a0
  have a1 := kept hb1 (block_lt a1) a1
  have bb1 := bb1.trans (hb1.mono bb1.size)
  clear hb1
  go_wp2_with fail
  refine (toImage_any _ _ _ _ xs _ h1 (by omega)).mono ?_
  rintro e w2 ⟨⟨g, rfl, hg, ho⟩, hb2⟩
  have r2 := ho.row
  have h2 := h1.bel hb2
  have a0 := kept hb2 (block_lt a0) a0
  have a1 := kept hb2 (block_lt a1) a1
  have bb2 := bb1.trans (hb2.mono bb1.size)
  clear ho hg hb2 h1 bb1
  go_wp2_with fail
  refine (toS_any al N cl L _ (hQ.out.bel bb2) (by omega)).mono ?_
  rintro e w2q ⟨⟨gq2, rfl, hgq2, hoq2⟩, hb2⟩
  have rq2 := Lib.hid (qrow_of hoq2)
  have r2 := r2.bel hb2
  have h2 := h2.bel hb2
  have a0 := kept hb2 (block_lt a0) a0
  have a1 := kept hb2 (block_lt a1) a1
  have bb2 := bb2.trans (hb2.mono bb2.size)
  clear hb2 hoq2 hgq2
  go_wp2_with fail
  refine (DS.out _ _ _ _ _ r2 rq2.out).mono ?_
  rintro e w3 ⟨⟨aw, cw, rfl, ow⟩, hb3⟩
  have h3 := h2.bel hb3
  have a0 := kept hb3 (block_lt a0) a0
  have a1 := kept hb3 (block_lt a1) a1
  have bb3 := bb2.trans (hb3.mono bb2.size)
  have z3 : w.heap.size < w3.heap.size := block_lt a0
  clear hb3 r2 h2 bb2 rq2
  go_wp2_with fail
  refine (toImage_any _ _ _ _ xs _ (h3.alloc _) (by omega)).mono ?_
  rintro e w4 ⟨⟨gx, rfl, hgx, ox⟩, hb4⟩
  have hgx : w3.heap.size + 1 ≤ gx := by simpa using hgx
  have hgx4 : gx < w4.heap.size := own_lt ox
  have h4 := (h3.alloc (.cells #[.int .i64 R.W, .slice aw R.xs.length cw] 25)).bel hb4
  have a0 := kept hb4 (by have := block_lt a0; simp at this ⊢; omega) (World.cell?_alloc_some a0)
  have a1 := kept hb4 (by have := block_lt a1; simp at this ⊢; omega) (World.cell?_alloc_some a1)
  have b0 : w4.cell? ⟨w3.heap.size, 0, none⟩ = some (.int .i64 R.W) := kept hb4 (by simp) (by simp)
  have b1 : w4.cell? ⟨w3.heap.size, 1, none⟩ = some (.slice aw R.xs.length cw) := kept hb4 (by simp) (by simp)
  have rw4 := (ow.row.alloc (.cells #[.int .i64 R.W, .slice aw R.xs.length cw] 25)).bel hb4
  have s3 := bb3.size
  have s4 : w3.heap.size + 1 ≤ w4.heap.size := by have := hb4.size; simpa using this
  have bb4 := (bb3.alloc s3 (.cells #[.int .i64 R.W, .slice aw R.xs.length cw] 25)).trans (hb4.mono (by simp; omega))
  have fa : ∀ b off, a = some ⟨b, off, none⟩ → 0 < len → b < w3.heap.size + 1 := fun b off e hl => by have := row_lt h3 b off e hl; omega
  have fw : ∀ b off, aw = some ⟨b, off, none⟩ → 0 < R.xs.length → b < w3.heap.size + 1 := fun b off e hl => by have := row_lt ow.row b off e hl; omega
  have z4 : w3.heap.size < w4.heap.size := by omega
  have z4' : w.heap.size < w4.heap.size := by omega
  clear hb4 h3 ow bb3
  go_wp2_with fail
  have bq4 := bb4.alloc bb4.size (.cells #[.int .i64 W, .slice (some ⟨gx, 0, none⟩) len len] 25)
  refine (toS_any al N cl L _ (hQ.out.bel bq4) (by omega)).mono ?_
  rintro e w4q ⟨⟨gq, rfl, hgq, hoq⟩, hbq⟩
  have hgq : w4.heap.size + 1 ≤ gq := by simpa using hgq
  have hgq4 : gq < w4q.heap.size := by rcases hoq.cases with ⟨e, _⟩ | ⟨g, e, _, e2⟩ <;> simp at e <;> omega
  have s4q : w4.heap.size + 1 ≤ w4q.heap.size := by have := hbq.size; simpa using this
  have oxq := Lib.hid ((ox.bel ((Below.refl _ _).alloc (Nat.le_refl _) (.cells #[.int .i64 W, .slice (some ⟨gx, 0, none⟩) len len] 25))).bel hbq)
  have xb0 : w4q.cell? ⟨w4.heap.size, 0, none⟩ = some (.int .i64 W) := kept hbq (by simp) (by simp)
  have xb1 : w4q.cell? ⟨w4.heap.size, 1, none⟩ = some (.slice (some ⟨gx, 0, none⟩) len len) := kept hbq (by simp) (by simp)
  have hA4 : w4.heap.size ≤ (w4.alloc (.cells #[.int .i64 W, .slice (some ⟨gx, 0, none⟩) len len] 25)).heap.size := by simp
  have a0 := kept hbq (by have := block_lt a0; simp at this ⊢; omega) (World.cell?_alloc_some a0)
  have a1 := kept hbq (by have := block_lt a1; simp at this ⊢; omega) (World.cell?_alloc_some a1)
  have b0 := kept hbq (by have := block_lt b0; simp at this ⊢; omega) (World.cell?_alloc_some b0)
  have b1 := kept hbq (by have := block_lt b1; simp at this ⊢; omega) (World.cell?_alloc_some b1)
  have h4 := (h4.alloc (.cells #[.int .i64 W, .slice (some ⟨gx, 0, none⟩) len len] 25)).bel hbq
  have rw4 := (rw4.alloc (.cells #[.int .i64 W, .slice (some ⟨gx, 0, none⟩) len len] 25)).bel hbq
  have bb4 := bq4.trans (hbq.mono bq4.size)
  have xq := Lib.hid hoq
  clear hbq hoq bq4 ox hA4
  go_wp2_with fail
  refine (DI.out _ _ _ _ _ oxq.out.row (qrow_of xq.out)).mono ?_
  rintro e w5 ⟨⟨ag, cg, rfl, og⟩, hb5⟩
  have hnx : ∀ g, ag = some ⟨g, 0, none⟩ → w5.heap.size ≠ g := fun g e => by subst e; have := own_lt og; omega
  have s5 : w4q.heap.size ≤ w5.heap.size := hb5.size
  have z5 : w4.heap.size < w5.heap.size := by omega
  have z5' : w3.heap.size < w5.heap.size := by omega
  have z5'' : w.heap.size < w5.heap.size := by omega
  have hb6 : Below w4q.heap.size w4q (w5.alloc (.cells #[.int .i64 R.W, .slice ag R.xs.length cg] 25)) := hb5.alloc hb5.size _
  have og6 := og.bel ((Below.refl _ _).alloc (Nat.le_refl _) (.cells #[.int .i64 R.W, .slice ag R.xs.length cg] 25))
  have S : St w (w5.alloc (.cells #[.int .i64 R.W, .slice ag R.xs.length cg] 25)) w.heap.size w3.heap.size w4.heap.size w5.heap.size W a len cap xs R aw cw (w3.heap.size + 1) gx xs w4q.heap.size ag cg R.xs :=
    ⟨kept hb6 (block_lt a0) a0, kept hb6 (block_lt a1) a1, kept hb6 (block_lt b0) b0, kept hb6 (block_lt b1) b1,
      kept hb6 (block_lt xb0) xb0, kept hb6 (block_lt xb1) xb1, by simp, by simp, h4.bel hb6, rw4.bel hb6, by simpa using oxq.out.bel hb6, by simpa using og6,
      bb4.trans (hb6.mono bb4.size), fa, fw, ⟨hgx, by omega, by omega⟩, ⟨by omega, by omega, by omega, by omega, by omega, hnx⟩⟩
  replace xq := Lib.hid (xq.out.bel hb6)
  clear a0 a1 b0 b1 xb0 xb1 rw4 h4 oxq og bb4 hb5 hb6 og6 fa fw hnx
  have g0 := S.g0
  have g1 := S.g1
  have b0 := S.w0
  have b1 := S.w1
  go_wp2_with fail
  refine (eqImage_yes _ _ _ _ _ _ R.xs _ S.og.row S.rw (by omega)).mono ?_
  rintro e w7 ⟨rfl, hb⟩
  have S := S.move hb
  replace xq := Lib.hid (xq.out.bel hb)
  clear hb g0 g1 b0 b1
  have x0 := S.x0
  have x1 := S.x1
  have y0 := S.a0
  have y1 := S.a1
  go_wp2_with fail
  go_region_held3 (fun W' => W'.cell? ⟨w4.heap.size, 0, none⟩ = some (.int .i64 W) ∧ W'.cell? ⟨w4.heap.size, 1, none⟩ = some (.slice (some ⟨gx, 0, none⟩) len len) ∧ W'.cell? ⟨w.heap.size, 0, none⟩ = some (.int .i64 W) ∧ W'.cell? ⟨w.heap.size, 1, none⟩ = some (.slice a len cap) ∧ Row W' a len xs ∧ Row W' (some ⟨gx, 0, none⟩) len xs ∧ Below w7.heap.size w7 W')
    (first | exact held ⟨x0, x1, y0, y1, S.ra, S.ox.row, Below.refl _ _⟩ ((Below.refl _ _).drew) | (refine held ?_ (by assumption); assumption))
    (first | (go_at_call 60; refine (toImage_any _ _ _ _ xs _ ?_ (by omega)).mono ?_; (exact And.left (And.right (And.right (And.right (And.right ‹_ ∧ _ ∧ _ ∧ _ ∧ Row _ _ _ _ ∧ _›))))); rintro e w8a ⟨⟨g6, rfl, hg6, ho6⟩, hb6⟩) | (go_at_call 63; refine (eqImage_yes _ _ _ _ _ _ xs _ ?_ ?_ hm).mono ?_; (exact And.left (And.right (And.right (And.right (And.right (And.right ‹_ ∧ _ ∧ _ ∧ _ ∧ Row _ _ _ _ ∧ _›)))))); (exact OwnI.row ‹_›); rintro e w8 ⟨rfl, hb7⟩))
  have hbl : Below w7.heap.size w7 w8 := And.right (And.right (And.right (And.right (And.right (And.right ‹w8.cell? _ = _ ∧ _›)))))
  have S := S.move hbl
  replace xq := Lib.hid (xq.out.bel hbl)
  clear x0 x1 y0 y1 hbl hb6 ho6 hb7
  go_wp2_with fail
  refine (toS_any al N cl L _ (hQ.out.bel S.bel) (by omega)).mono ?_
  rintro e w8q ⟨⟨gq8, rfl, hgq8, hoq8⟩, hb⟩
  have S := S.move hb
  replace xq := Lib.hid (xq.out.bel hb)
  have eq8 := Lib.hid hoq8.row
  clear hb hgq8 hoq8
  go_wp2_with fail
  refine (eqS_big _ _ _ _ _ _ _ xq.out.row eq8.out (by omega)).mono ?_
  rintro e w8r ⟨rfl, hb⟩
  have S := S.move hb
  replace xq := Lib.hid (xq.out.bel hb)
  clear hb eq8
  have x0 := S.x0
  have x1 := S.x1
  go_wp2_with fail
  refine (markImage_own _ _ _ _ _ xs 1 _ S.ox (by omega) (by omega) (by omega)).mono ?_
  rintro e w9 ⟨rfl, hgr, ho⟩
  have S := S.markx hgr ho
  replace xq := Lib.hid (World.ownsRow.kept xq.out hgr (.inr (show some gq ≠ some gx from fun e => by have := Option.some.inj e; omega)))
  clear hgr ho x0 x1
  have n1 := S.n1
  have n2 := S.n2
  go_wp2_with fail
  refine (markS_big _ _ _ _ _ _ _ xq.out (by omega) (by omega) (by omega)).mono ?_
  rintro e w9q ⟨rfl, hgr, _⟩
  have S := St.other (gq := gq) S hgr (by omega) (by omega) (by omega) (by omega) (by omega)
  clear hgr xq n1 n2
  have g0 := S.g0
  have g1 := S.g1
  have b0 := S.w0
  have b1 := S.w1
  go_wp2_with fail
  refine (eqImage_yes _ _ _ _ _ _ R.xs _ S.og.row S.rw (by omega)).mono ?_
  rintro e w10 ⟨rfl, hb⟩
  have S := S.move hb
  clear hb g0 g1 b0 b1
  have g0 := S.g0
  have g1 := S.g1
  go_wp2_with fail
  refine (markImage_own _ _ _ _ _ R.xs 1 _ S.og hR (by omega) (by omega)).mono ?_
  rintro e w11 ⟨rfl, hgr, ho⟩
  have S := S.markg hgr ho
  clear hgr ho g0 g1
  have g0 := S.g0
  have g1 := S.g1
  go_wp2_with fail
  refine (heldImage_any _ _ _ _ 1 _ S.og.row hR (by omega) (by omega)).mono ?_
  rintro e w12 ⟨rfl, hb⟩
  have S := S.move hb
  clear hb g0 g1
  have y0 := S.a0
  have y1 := S.a1
  go_wp2_with fail
  refine (toImage_any _ _ _ _ xs _ S.ra (by omega)).mono ?_
  rintro e w13 ⟨⟨g13, rfl, hg13, o13⟩, hb⟩
  have S := S.move hb
  have r13 := o13.row
  clear hb y0 y1 hg13 o13
  go_wp2_with fail
  refine (toS_any al N cl L _ (hQ.out.bel S.bel) (by omega)).mono ?_
  rintro e w13q ⟨⟨gq13, rfl, hgq13, hoq13⟩, hb⟩
  have S := S.move hb
  have r13 := r13.bel hb
  have rq13 := Lib.hid (qrow_of hoq13)
  clear hb hgq13 hoq13
  go_wp2_with fail
  refine (DI.out _ _ _ _ _ r13 rq13.out).mono ?_
  rintro e w14 ⟨⟨ah, ch, rfl, oh⟩, hb⟩
  have S := S.move hb
  have b0 := S.w0
  have b1 := S.w1
  have q1 : w3.heap.size < w14.heap.size := block_lt b0
  have q2 : w5.heap.size < w14.heap.size := block_lt S.g0
  clear hb r13 rq13
  go_wp2_with fail
  have S := S.move ((Below.refl _ _).alloc (Nat.le_refl _) (.cells #[.int .i64 R.W, .slice ah R.xs.length ch] 25))
  refine (eqImage_yes _ _ _ _ _ _ R.xs _ (oh.row.alloc _) S.rw (by omega)).mono ?_
  rintro e w15 ⟨rfl, hb⟩
  have S := S.move hb
  clear hb b0 b1 oh q1 q2
  have g0 := S.g0
  have g1 := S.g1
  go_wp2_with fail
  refine (heldImage_any _ _ _ _ 1 _ S.og.row hR (by omega) (by omega)).mono ?_
  rintro e w16 ⟨rfl, hb⟩
  have S := S.move hb
  clear hb g0 g1
  go_wp2_with fail
  go_ret
  exact ⟨rfl, S.bel⟩

set_option maxRecDepth 100000 in
theorem lifted (os : Os) (started : os.Started) (H : Type) (enc : TypeId × Value → H) :
    ReturnsInHanded {} Try.checked os 16 .any (Rows.fnExactSwitchRunSpec.pre6 enc Try.prog Try.f16 Rows.fnExactSwitchRunRow.domain false) (Rows.fnExactSwitchRunSpec.post enc Try.prog Try.f16 false true false false) := by
  refine returnsInHanded_of_change (C := Try.checked) own started (by kernel_rfl) Try.func16
    (ChangeSpec.witness6 (enc := enc) (C := Try.checked) false ⟨#[], #[.agg #[.int .i64 0, .slice none 0 0], .slice none 0 0], []⟩ 8 (by kernel_rfl) (by kernel_rfl) (by kernel_rfl) (by kernel_rfl)) ?_
  intro W base args ds gs before hval0 hW hcnd _
  have hval : ∀ (j : Nat) t v, Try.f16.params[j]? = some t → args[j]? = some v → Value.okWide Try.prog W .any base t v := hval0
  have hW' := hW
  obtain ⟨p, q, hA0, hV, rfl, hfz, hnd⟩ := hW
  have hA : DataW.TrodAll enc Try.prog W 0 (fun _ => true) true Try.f16.params.toList args.toList ds p := hA0
  rw [Try.params16] at hA hval
  obtain ⟨v0, vs0, d0, ds0, p0, q0, hargs, rfl, rfl, h0, r0⟩ := trodAll_cons hA
  obtain ⟨v1, vs1, d1, ds1, p1, q1, rfl, rfl, rfl, h1, r1⟩ := trodAll_cons r0
  obtain ⟨rfl, rfl, rfl⟩ := trodAll_nil r1
  obtain rfl : args = #[v0, v1] := by cases args; simp_all
  obtain ⟨rfl, rfl⟩ := trodVars_none hV
  have k0 := h0
  have lt0 : ∀ x ∈ p0, x.block < W.heap.size := by obtain ⟨m, hm⟩ := k0; exact DataW.trod_lt m _ _ _ hm
  obtain ⟨n0, a0, len0, cap0, z0, rfl, w0, m0⟩ := open_img (hval 0 53 v0 rfl rfl) h0
  have k1 := h1
  have lt1 : ∀ x ∈ p1, x.block < W.heap.size := by obtain ⟨m, hm⟩ := k1; exact DataW.trod_lt m _ _ _ hm
  obtain ⟨a1, len1, cap1, z1, rfl, w1, m1⟩ := open_switches (hval 1 54 v1 rfl rfl) h1
  clear hA0 hval0
  refine (walk n0 a0 len0 cap0 z0 a1 len1 cap1 z1 W w0 m0 w1 m1).mono fun e W' ⟨he, bel⟩ => ?_
  subst he
  exact ⟨_, rfl, _, _, _, [], _, [], hW', trodAll_mk1 (shut_bool Try.underlying4 _), (trodAll_cons_mk (Below.trod laidOut (by kernel_rfl) (of_decide_eq_true (by kernel_rfl)) k0 bel lt0) (trodAll_cons_mk (Below.trod laidOut (by kernel_rfl) (of_decide_eq_true (by kernel_rfl)) k1 bel lt1) trodAll_mk0)), rfl, bel.frame _, fun h => by cases h⟩

theorem closed : joinedFacts Try.prog 16 Try.f16 Rows.fnExactSwitchRunSpec Rows.fnExactSwitchRunRow = true := by
  simp only [joinedFacts, Bool.and_eq_true]
  repeat' apply And.intro
  all_goals first | with_reducible exact mayEnterOk | (with_reducible rw [liftsFinalOk]; kernel_rfl) | (with_reducible rw [makeOk]; kernel_rfl) | kernel_rfl

theorem over : Rows.fnExactSwitchRunRow.holds Try.pinned (OpenSpec.ofChange Rows.fnExactSwitchRunSpec) :=
  OpenClaim.holds_of_wide 16 Try.f16 rfl rfl rfl rfl rfl rfl rfl ⟨rfl, rfl, rfl, rfl, rfl⟩ rfl rfl rfl rfl rfl (by kernel_rfl) Try.func16 closed
    (of_decide_eq_true (by kernel_rfl)) (by unfold Func.isWrapper; first | (rw [if_pos (by decide +kernel)]; kernel_rfl) | (rw [if_neg (by decide +kernel)]; exact ⟨rfl, rfl⟩))
    (fun os started H enc _ => lifted os started H enc)

theorem proved : Rows.FnExactSwitchRunSaid := over
#print axioms proved
end Go.Proofs.Ytnhcknbbkmaiiaa.LSwitchRun

