/-
  The contracts of BuildNested, of the program and of the model.
  The contracts of BuildNested in the form that the laws use.
-/
import Derived.Test.YtmfncheimmcobaaDa
import Derived.Deep.AppendLies
import Derived.Deep.RegionLaw
import Derived.Test.YtmfncheimmcobaaHc
import Derived.Test.YtmfncheimmcobaaEp

namespace Go.Proofs.Ytmfncheimmcobaa
set_option maxRecDepth 100000
open Go.RowKit

/-- The middle of the walk: the result's box, the image's box with the rows so far. -/
structure Gq (B : Nat) (w wr : World) (W : Int) (g k cap : Nat) (xs : List Int) : Prop where
  c0 : wr.cell? ⟨B, 0, none⟩ = some (.int .i64 0)
  c1 : wr.cell? ⟨B, 1, none⟩ = some (.slice none 0 0)
  cf : ∀ o, wr.frozen? ⟨B, o, none⟩ = false
  d0 : wr.cell? ⟨B + 2, 0, none⟩ = some (.int .i64 W)
  d1 : wr.cell? ⟨B + 2, 1, none⟩ = some (.slice (some ⟨g, 0, none⟩) k cap)
  df : ∀ o, wr.frozen? ⟨B + 2, o, none⟩ = false
  own : OwnI wr (B + 1) (some ⟨g, 0, none⟩) k cap xs
  ne : g ≠ B + 2
  bel : Below B w wr
theorem Gq.ge {B : Nat} {w wr : World} {W : Int} {g k cap : Nat} {xs : List Int} (h : Gq B w wr W g k cap xs) : B + 1 ≤ g := by
  rcases h.own.cases with ⟨e, _⟩ | ⟨g', e, h2, _⟩
  · cases e
  · simp only [Option.some.injEq, Addr.mk.injEq, and_true] at e; omega
theorem Gq.same {B : Nat} {w wr w1 : World} {W : Int} {g k cap : Nat} {xs : List Int} (h : Gq B w wr W g k cap xs) (hg : wr.grownBy w1 (some g)) {b : Nat} (hb : b = B ∨ b = B + 2) : (∀ i v, wr.cell? ⟨b, i, none⟩ = some v → w1.cell? ⟨b, i, none⟩ = some v) ∧ ∀ i, wr.frozen? ⟨b, i, none⟩ = false → w1.frozen? ⟨b, i, none⟩ = false := by
  have hs : b < wr.heap.size := by
    have h1 : B < wr.heap.size := block_lt h.c0
    have h2 : B + 2 < wr.heap.size := block_lt h.d0
    omega
  have hge := h.ge
  have hne := h.ne
  have e : w1.heap[b]? = wr.heap[b]? := hg.block b hs (by simp; omega)
  exact ⟨fun i v hv => by rw [World.cell?_of_block e]; exact hv, fun i hv => by rw [World.frozen?_of_block e]; exact hv⟩
theorem Gq.app {B : Nat} {w wr w1 : World} {W : Int} {g g' k cap cap' : Nat} {xs ys : List Int} (h : Gq B w wr W g k cap xs) (hg : wr.grownBy w1 (some g)) (ho : OwnI w1 (B + 1) (some ⟨g', 0, none⟩) (k + 1) cap' ys) (hn : g' ≠ B + 2) :
    Gq B w (w1.setCell ⟨B + 2, 1, none⟩ (.slice (some ⟨g', 0, none⟩) (k + 1) cap')) W g' (k + 1) cap' ys := by
  have c0 := (h.same hg (.inl rfl)).1 _ _ h.c0
  have c1 := (h.same hg (.inl rfl)).1 _ _ h.c1
  have d0 := (h.same hg (.inr rfl)).1 _ _ h.d0
  have d1 := (h.same hg (.inr rfl)).1 _ _ h.d1
  have cf := fun i => (h.same hg (.inl rfl)).2 i (h.cf i)
  have df := fun i => (h.same hg (.inr rfl)).2 i (h.df i)
  have hge := h.ge
  have hs : B + 2 < wr.heap.size := block_lt h.d0
  have hb : Below B w w1 := h.bel.grown hg (by omega) (fun k hk => by cases hk; omega)
  refine ⟨?_, ?_, fun i => by rw [World.frozen?_setCell]; exact cf i, ?_, ?_, fun i => by rw [World.frozen?_setCell]; exact df i, ?_, hn, hb.setCell (by simp) _⟩
  · rw [World.cell?_setCell_other _ _ _ _ (by simp)]; exact c0
  · rw [World.cell?_setCell_other _ _ _ _ (by simp)]; exact c1
  · rw [World.cell?_setCell_other _ _ _ _ (by simp)]; exact d0
  · exact World.cell?_setCell_same _ _ _ d1
  · refine World.ownsRow.kept ho (row := some (B + 2)) ⟨rfl, rfl, rfl, by simp [World.setCell], fun k _ hk => Below.heap_setCell _ _ _ _ (fun e => hk (by rw [e]))⟩ ?_
    right; simp [Value.ownBlock]; exact hn
theorem Gq.move {B : Nat} {w wr w1 : World} {W : Int} {g k cap : Nat} {xs : List Int} (h : Gq B w wr W g k cap xs) (hb : Below wr.heap.size wr w1) : Gq B w w1 W g k cap xs := by
  have hg := below_grown hb (some g)
  have hs : B + 2 < wr.heap.size := block_lt h.d0
  exact ⟨(h.same hg (.inl rfl)).1 _ _ h.c0, (h.same hg (.inl rfl)).1 _ _ h.c1, fun i => (h.same hg (.inl rfl)).2 i (h.cf i), (h.same hg (.inr rfl)).1 _ _ h.d0, (h.same hg (.inr rfl)).1 _ _ h.d1, fun i => (h.same hg (.inr rfl)).2 i (h.df i), h.own.bel hb, h.ne, h.bel.trans (hb.mono (by omega))⟩

theorem news_1 (w : World) (v : Value) (N : Nat) (hN : w.heap.size = N) : ∀ j u, [v][j]? = some u → (w.alloc (.cells #[v] 3)).cell? ((⟨N, 0, none⟩ : Addr).add j) = some u := by
  intro j u hj
  subst hN
  cases j with
  | zero => simp at hj; subst hj; simp [Addr.add]
  | succ j => simp at hj

theorem one_i (x : Int) : ∀ u ∈ [Value.int .i64 x], u.oneCell' = true := by intro u hu; simp at hu; subst hu; rfl
theorem Gq.behind {B : Nat} {w W0 w1 : World} {W x : Int} {g g' k cap cap' : Nat} {xs : List Int} {o : Obj} (h : Gq B w W0 W g k cap xs) (hown1 : w1.ownsRow (B + 1) 3 1 (.slice (some ⟨g', 0, none⟩) (k + 1) cap') (k + 1) (xs.map (Value.int .i64) ++ [.int .i64 x]))
    (hgrow : (W0.drew.alloc o).grownBy w1 (Value.slice (some ⟨g, 0, none⟩) k cap).ownBlock) (hat : (Value.slice (some ⟨g, 0, none⟩) k cap).ownBlock = some g' ∨ g' = W0.heap.size + 1) :
    w1.cell? ⟨B + 2, 1, none⟩ = some (.slice (some ⟨g, 0, none⟩) k cap) ∧ (∀ o, w1.frozen? ⟨B + 2, o, none⟩ = false) ∧ Hid (Gq B w (w1.setCell ⟨B + 2, 1, none⟩ (.slice (some ⟨g', 0, none⟩) (k + 1) cap')) W g' (k + 1) cap' (xs ++ [x])) := by
  have hm := h.move ((Below.refl _ _).drew.alloc (by simp) o)
  have hs : B + 2 < W0.heap.size := block_lt h.d0
  have hne := h.ne
  refine ⟨(hm.same hgrow (.inr rfl)).1 _ _ hm.d1, fun i => (hm.same hgrow (.inr rfl)).2 i (hm.df i), hm.app hgrow ?_ ?_⟩
  · show w1.ownsRow _ _ _ _ _ ((xs ++ [x]).map _); rw [List.map_append]; exact hown1
  · rcases hat with e | e
    · simp only [Value.ownBlock, Option.some.injEq] at e; omega
    · omega


def nestOut (xs : List Int) (e : Int) : Out := if nestB xs e = true then ⟨true, e, nestL xs e.toNat⟩ else .no
theorem nestOut_no {xs : List Int} {e : Int} (h : nestB xs e = false) : nestOut xs e = .no := by unfold nestOut; rw [h]; rfl
theorem nestOut_six (xs : List Int) (e : Int) : (nestOut xs e).xs.length ≤ 6 := by
  unfold nestOut
  split
  · rename_i h
    show (nestL xs e.toNat).length ≤ 6
    rw [nest_len]
    unfold nestB at h
    rw [Bool.and_eq_true] at h
    have := inB_iff.1 h.1
    omega
  · simp [Out.no]
theorem nest_rows {xs : List Int} {w n : Nat} (hl : xs.length = n) (hb : ∀ i, i < n → 0 ≤ xs.getD i 0 ∧ xs.getD i 0 ≤ w) : rowsL (fun i => pw (xs.getD i 0).toNat - 1) n = nestL xs w := by
  subst hl
  exact rows_ext fun i hi => (nest_row (xs.getD i 0) (hb i hi).1 w (hb i hi).2).symm

theorem grown_bel0 {w wr w' : World} {row : Option Nat} (h : w.grownBy wr row) (hb : Below wr.heap.size wr w') : w.grownBy w' row := grown_trans h (below_grown hb _)

set_option maxHeartbeats 2000000 in
theorem bn_impl (a : Option Addr) (n cap : Nat) (xs : List Int) (e : Int) (w : World) (h : Row w a n xs) (hm : n ≤ 9223372036854775807) :
    Calls Try.prog 64 #[.slice a n cap, .int .i64 e] w (Gives w (nestOut xs e)) := by
  have hl := h.1
  by_cases h0 : inB n 1 6 = true
  case neg =>
    have h0 : inB n 1 6 = false := by simpa using h0
    rw [nestOut_no (by unfold nestB; rw [hl]; rw [h0]; rfl)]
    have H := Lib.hid h
    clear h
    go_enter Try.func64, Try.ntmps64
    go_wp2_with fail
    refine (side_any _ _).mono ?_
    rintro _ w0 ⟨rfl, rfl⟩
    rw [h0]
    go_wp2_with fail
    refine bodyPost_ret (v := .tuple #[.agg #[.int .i64 0, .slice none 0 0], .bool false]) (by simp [results, Try.results64, go_sem]) rfl ?_
    exact ⟨⟨none, 0, rfl, own_nil _ _⟩, by first | exact (Below.refl _ _).alloc (Nat.le_refl _) _ | exact (((Below.refl _ _).alloc (Nat.le_refl _) _).setCell (by simp) _).setCell (by simp) _⟩
  by_cases h1 : inB e 1 6 = true
  case neg =>
    have h1 : inB e 1 6 = false := by simpa using h1
    rw [nestOut_no (by unfold nestB; rw [hl]; rw [h0]; rw [h1]; rfl)]
    have H := Lib.hid h
    clear h
    go_enter Try.func64, Try.ntmps64
    go_wp2_with fail
    refine (side_any _ _).mono ?_
    rintro _ w0 ⟨rfl, rfl⟩
    rw [h0]
    go_wp2_with fail
    refine (side_any _ _).mono ?_
    rintro _ w1 ⟨rfl, rfl⟩
    rw [h1]
    go_wp2_with fail
    refine bodyPost_ret (v := .tuple #[.agg #[.int .i64 0, .slice none 0 0], .bool false]) (by simp [results, Try.results64, go_sem]) rfl ?_
    exact ⟨⟨none, 0, rfl, own_nil _ _⟩, by first | exact (Below.refl _ _).alloc (Nat.le_refl _) _ | exact (((Below.refl _ _).alloc (Nat.le_refl _) _).setCell (by simp) _).setCell (by simp) _⟩
  by_cases h2 : allIn xs 0 e = true
  case neg =>
    have h2 : allIn xs 0 e = false := by simpa using h2
    rw [nestOut_no (by unfold nestB; rw [hl]; rw [h0]; rw [h1]; rw [h2]; rfl)]
    have H := Lib.hid h
    clear h
    go_enter Try.func64, Try.ntmps64
    go_wp2_with fail
    refine (side_any _ _).mono ?_
    rintro _ w0 ⟨rfl, rfl⟩
    rw [h0]
    go_wp2_with fail
    refine (side_any _ _).mono ?_
    rintro _ w1 ⟨rfl, rfl⟩
    rw [h1]
    go_wp2_with fail
    refine (within_impl a n cap xs e _ (H.out.alloc _) hm).mono ?_
    rintro _ w2 ⟨rfl, rfl⟩
    rw [h2]
    go_wp2_with fail
    refine bodyPost_ret (v := .tuple #[.agg #[.int .i64 0, .slice none 0 0], .bool false]) (by simp [results, Try.results64, go_sem]) rfl ?_
    exact ⟨⟨none, 0, rfl, own_nil _ _⟩, by first | exact (Below.refl _ _).alloc (Nat.le_refl _) _ | exact (((Below.refl _ _).alloc (Nat.le_refl _) _).setCell (by simp) _).setCell (by simp) _⟩
  have hW := inB_iff.1 h1
  have hN := inB_iff.1 h0
  obtain ⟨W, rfl⟩ := Int.eq_ofNat_of_zero_le (by omega : 0 ≤ e)
  have hO : nestOut xs W = ⟨true, W, nestL xs W⟩ := by
    unfold nestOut; rw [if_pos (by unfold nestB; rw [hl, h0, h1, h2]; rfl), Int.toNat_natCast]
  have hb : Hid (∀ i, i < n → 0 ≤ xs.getD i 0 ∧ xs.getD i 0 ≤ W) := fun i hi => allIn_iff.1 h2 i (by omega)
  have hnr := Lib.hid (nest_rows hl hb.out)
  have hln : Hid ((nestL xs W).length = n) := (nest_len xs W).trans hl
  rw [hO]
  have far := Lib.hid (row_lt h)
  have H := Lib.hid h
  obtain ⟨i1, ii, iz0, iz1, iz2⟩ := info_parts infoInt
  clear h hO hl
  go_enter Try.func64, Try.ntmps64
  go_wp2_with fail
  refine (side_any _ _).mono ?_
  rintro _ w0 ⟨rfl, rfl⟩
  rw [h0]
  go_wp2_with fail
  refine (side_any _ _).mono ?_
  rintro _ w1 ⟨rfl, rfl⟩
  rw [h1]
  go_wp2_with fail
  refine (within_impl a n cap xs W _ (H.out.alloc _) hm).mono ?_
  rintro _ w2 ⟨rfl, rfl⟩
  rw [h2]
  have hW0 : Below w.heap.size w (w.alloc (.cells #[.int .i64 0, .slice none 0 0] 32)) := (Below.refl _ _).alloc (Nat.le_refl _) _
  have y0 : (w.alloc (.cells #[.int .i64 0, .slice none 0 0] 32)).cell? ⟨w.heap.size, 0, none⟩ = some (.int .i64 0) := by simp
  have y1 : (w.alloc (.cells #[.int .i64 0, .slice none 0 0] 32)).cell? ⟨w.heap.size, 1, none⟩ = some (.slice none 0 0) := by simp
  have yf : ∀ o, (w.alloc (.cells #[.int .i64 0, .slice none 0 0] 32)).frozen? ⟨w.heap.size, o, none⟩ = false := fun o => by simp
  have H1 := Lib.hid (H.out.bel hW0)
  have hz : w.heap.size < (w.alloc (.cells #[.int .i64 0, .slice none 0 0] 32)).heap.size := by simp
  generalize w.alloc (.cells #[.int .i64 0, .slice none 0 0] 32) = w1 at *
  clear h0 h1 h2
  go_wp2_with ((refine wpList_make_full w1 rfl _ _ 23 rfl w1.heap.size 3 i1 (.int .i64 0) 1 Try.underlying23 ii iz0 iz1 .i64 .i64 n n n rfl rfl rfl rfl ?_ ?_ (Nat.le_refl _) ?_))
  all_goals first | omega | (rw [iz2]; omega) | (unfold maxLen; omega) | skip
  intro w2 ho hg
  have ho0 : OwnI w2 w1.heap.size (some ⟨w1.heap.size, 0, none⟩) n n (rowsL (fun i => if i < 0 then pw (xs.getD i 0).toNat - 1 else 0) n) := by
    rw [rows_ext (g := fun _ => 0) (fun i _ => if_neg (Nat.not_lt_zero i)), rows_zero]; unfold OwnI; simpa [toList_madeCells_one, List.map_replicate] using ho
  have hb2 : Below w1.heap.size w1 w2 := (Below.refl _ _).grown hg (Nat.le_refl _) (fun k hk => by cases hk)
  have hz2 : w1.heap.size < w2.heap.size := (World.ownsRow.lt ho0 w1.heap.size rfl).2
  replace y0 := kept hb2 (block_lt y0) y0
  replace y1 := kept hb2 (block_lt y1) y1
  replace yf : ∀ o, w2.frozen? ⟨w.heap.size, o, none⟩ = false := fun o => (hb2.frozen (p := ⟨w.heap.size, o, none⟩) hz).trans (yf o)
  have bb1 := Lib.hid (hW0.trans (hb2.mono hW0.size))
  replace H1 := Lib.hid (H1.out.bel hb2)
  obtain ⟨g, hgg⟩ : ∃ g, w1.heap.size = g := ⟨_, rfl⟩
  rw [hgg] at ho0 hz hz2 ⊢
  clear ho hg hb2 hgg hW0
  replace ho0 := Lib.hid ho0
  obtain ⟨w3, hw3⟩ : ∃ w3, w2.alloc (.cells #[.int .i64 W, .slice (some ⟨g, 0, none⟩) n n] 32) = w3 := ⟨_, rfl⟩
  have hb3 : Below w2.heap.size w2 w3 := by rw [← hw3]; exact (Below.refl _ _).alloc (Nat.le_refl _) _
  have a0 : w3.cell? ⟨w2.heap.size, 0, none⟩ = some (.int .i64 W) := by rw [← hw3]; simp
  have a1 : w3.cell? ⟨w2.heap.size, 1, none⟩ = some (.slice (some ⟨g, 0, none⟩) n n) := by rw [← hw3]; simp
  replace y0 := kept hb3 (block_lt y0) y0
  replace y1 := kept hb3 (block_lt y1) y1
  replace yf : ∀ o, w3.frozen? ⟨w.heap.size, o, none⟩ = false := fun o => (hb3.frozen (p := ⟨w.heap.size, o, none⟩) (show w.heap.size < w2.heap.size by omega)).trans (yf o)
  replace bb1 := Lib.hid (bb1.out.trans (hb3.mono bb1.out.size))
  replace H1 := Lib.hid (H1.out.bel hb3)
  replace ho0 := Lib.hid (ho0.out.bel hb3)
  have hz3 : w2.heap.size < w3.heap.size := by rw [← hw3]; simp
  clear hb3
  go_upto_region 4 with fail
  (try rw [hw3])
  clear hw3
  generalize w2.heap.size = k2 at *
  go_wp2_with fail
  go_loopw [32] (fun i wr => ∃ k : Nat, k ≤ n ∧ i = .int .i64 k ∧ Hid (w3.grownBy wr (some g)) ∧ Hid (OwnI wr g (some ⟨g, 0, none⟩) n n (rowsL (fun i => if i < k then pw (xs.getD i 0).toNat - 1 else 0) n))) (fun i _ => n - (intOf i).toNat)
  case atStart => exact ⟨0, Nat.zero_le _, rfl, World.grownBy.refl _ _, ho0⟩
  case round =>
    clear ho0
    obtain ⟨k, hk, rfl, hgr, hown⟩ := hrel
    obtain ⟨wo, rfl⟩ : ∃ wo : World, wo = wr := ⟨_, rfl⟩
    by_cases hlt : k < n
    · have hR := H1.out.apart hgr.out (fun q off e hl => by have := far.out q off e hl; simp; omega)
      obtain ⟨b, off, rfl, hck⟩ := row_at hR hlt
      have hr := hb.out k hlt
      obtain ⟨x, hx⟩ := Int.eq_ofNat_of_zero_le hr.1
      have q1 := hgr.out.cell a1 (by simp; omega)
      have hc := own_cell hown.out hlt
      generalize (rowsL (fun i => if i < k then pw (xs.getD i 0).toNat - 1 else 0) n).getD k 0 = zz at hc
      have hs := (hown.out.bel ((Below.refl _ _).drew)).set k (pw x - 1)
      rw [rows_step (fun i => pw (xs.getD i 0).toNat - 1) (fun _ => 0) hlt (by rw [hx, Int.toNat_natCast])] at hs
      rw [hx] at hck hr
      obtain ⟨W2, hW2⟩ : ∃ W2, wo.drew = W2 := ⟨_, rfl⟩
      have p1 : W2.cell? ⟨k2, 1, none⟩ = some (.slice (some ⟨g, 0, none⟩) n n) := by rw [← hW2]; exact q1
      have p2 : W2.cell? ⟨g, k, none⟩ = some (.int .i64 zz) := by rw [← hW2]; exact hc
      have p3 : W2.frozen? ⟨g, k, none⟩ = false := by rw [← hW2]; exact hown.out.frozen k
      have hgr3 : w3.grownBy W2 (some g) := by rw [← hW2]; exact grown_bel0 hgr.out ((Below.refl _ _).drew)
      rw [hW2] at hs
      have hgr4 := Lib.hid (grown_set (j := k) (v := .int .i64 (pw x - 1)) hgr3)
      have hs4 := Lib.hid hs
      clear hs hgr3 hx hR
      go_wp2_with fail
      refine region_tail 6 (by kernel_rfl) (by kernel_rfl) W2 hW2 ?_
      simp only [List.take_succ_cons, List.take_zero, List.drop_succ_cons, List.drop_zero]
      clear hW2 hc hgr hown hck q1
      repeat (first | still_step | still_call (st (full_any _ _ (by omega))))
      refine wpStill_nil ?_
      go_wp2_with fail
      exact ⟨⟨k + 1, by omega, by go_num, hgr4, hs4⟩, by simp [intOf]; omega⟩
    · have : k = n := by omega
      subst this
      have hown2 := hown.out
      rw [rows_ext (g := fun i => pw (xs.getD i 0).toNat - 1) (fun i hi => if_pos hi), hnr.out] at hown2
      have z0 := hgr.out.cell a0 (by simp; omega)
      have z1 := hgr.out.cell a1 (by simp; omega)
      have u0 := hgr.out.cell y0 (by simp; omega)
      have u1 := hgr.out.cell y1 (by simp; omega)
      have uf : ∀ o, wo.frozen? ⟨w.heap.size, o, none⟩ = false := fun o => (World.frozen?_of_block (a := ⟨w.heap.size, o, none⟩) (hgr.out.block w.heap.size (by omega) (by simp; omega))).trans (yf o)
      have bb : Hid (Below w.heap.size w wo) := bb1.out.grown hgr.out bb1.out.size (fun k hk => by cases hk; omega)
      replace hown2 := Lib.hid hown2
      clear hown hgr y0 y1 yf a0 a1
      go_wp2_with fail
      refine bodyPost_ret (v := .tuple #[.agg #[.int .i64 W, .slice (some ⟨g, 0, none⟩) k k], .bool true]) (by simp [results, Try.results64, go_sem, u0, u1]) rfl ?_
      refine ⟨⟨some ⟨g, 0, none⟩, k, by rw [hln.out], ?_⟩, (bb.out.setCell (by simp) _).setCell (by simp) _⟩
      show OwnI _ _ _ (nestL xs W).length _ _
      rw [hln.out]
      exact ((hown2.out.store (by simp; omega) _).store (by simp; omega) _).mono (by omega)

set_option maxHeartbeats 2000000 in
theorem bn_spec (a : Option Addr) (n cap : Nat) (xs : List Int) (e : Int) (w : World) (h : Row w a n xs) (hm : n ≤ 9223372036854775807) :
    Calls Try.prog 65 #[.slice a n cap, .int .i64 e] w (Gives w (nestOut xs e)) := by
  have hl := h.1
  by_cases h0 : inB n 1 6 = true
  case neg =>
    have h0 : inB n 1 6 = false := by simpa using h0
    rw [nestOut_no (by unfold nestB; rw [hl]; rw [h0]; rfl)]
    have H := Lib.hid h
    clear h
    go_enter Try.func65, Try.ntmps65
    go_wp2_with fail
    refine (in_any _ _ _ _).mono ?_
    rintro _ w0 ⟨rfl, rfl⟩
    rw [h0]
    go_wp2_with fail
    refine bodyPost_ret (v := .tuple #[.agg #[.int .i64 0, .slice none 0 0], .bool false]) (by simp [results, Try.results65, go_sem]) rfl ?_
    exact ⟨⟨none, 0, rfl, own_nil _ _⟩, by first | exact (Below.refl _ _).alloc (Nat.le_refl _) _ | exact (((Below.refl _ _).alloc (Nat.le_refl _) _).setCell (by simp) _).setCell (by simp) _⟩
  by_cases h1 : inB e 1 6 = true
  case neg =>
    have h1 : inB e 1 6 = false := by simpa using h1
    rw [nestOut_no (by unfold nestB; rw [hl]; rw [h0]; rw [h1]; rfl)]
    have H := Lib.hid h
    clear h
    go_enter Try.func65, Try.ntmps65
    go_wp2_with fail
    refine (in_any _ _ _ _).mono ?_
    rintro _ w0 ⟨rfl, rfl⟩
    rw [h0]
    go_wp2_with fail
    refine (in_any _ _ _ _).mono ?_
    rintro _ w1 ⟨rfl, rfl⟩
    rw [h1]
    go_wp2_with fail
    refine bodyPost_ret (v := .tuple #[.agg #[.int .i64 0, .slice none 0 0], .bool false]) (by simp [results, Try.results65, go_sem]) rfl ?_
    exact ⟨⟨none, 0, rfl, own_nil _ _⟩, by first | exact (Below.refl _ _).alloc (Nat.le_refl _) _ | exact (((Below.refl _ _).alloc (Nat.le_refl _) _).setCell (by simp) _).setCell (by simp) _⟩
  by_cases h2 : allIn xs 0 e = true
  case neg =>
    have h2 : allIn xs 0 e = false := by simpa using h2
    rw [nestOut_no (by unfold nestB; rw [hl]; rw [h0]; rw [h1]; rw [h2]; rfl)]
    have H := Lib.hid h
    clear h
    go_enter Try.func65, Try.ntmps65
    go_wp2_with fail
    refine (in_any _ _ _ _).mono ?_
    rintro _ w0 ⟨rfl, rfl⟩
    rw [h0]
    go_wp2_with fail
    refine (in_any _ _ _ _).mono ?_
    rintro _ w1 ⟨rfl, rfl⟩
    rw [h1]
    go_wp2_with fail
    refine (each_spec a n cap xs 0 e _ (H.out.alloc _) hm).mono ?_
    rintro _ w2 ⟨rfl, rfl⟩
    rw [h2]
    go_wp2_with fail
    refine bodyPost_ret (v := .tuple #[.agg #[.int .i64 0, .slice none 0 0], .bool false]) (by simp [results, Try.results65, go_sem]) rfl ?_
    exact ⟨⟨none, 0, rfl, own_nil _ _⟩, by first | exact (Below.refl _ _).alloc (Nat.le_refl _) _ | exact (((Below.refl _ _).alloc (Nat.le_refl _) _).setCell (by simp) _).setCell (by simp) _⟩
  have hW := inB_iff.1 h1
  have hN := inB_iff.1 h0
  obtain ⟨W, rfl⟩ := Int.eq_ofNat_of_zero_le (by omega : 0 ≤ e)
  have hO : nestOut xs W = ⟨true, W, nestL xs W⟩ := by
    unfold nestOut; rw [if_pos (by unfold nestB; rw [hl, h0, h1, h2]; rfl), Int.toNat_natCast]
  have hb : Hid (∀ i, i < n → 0 ≤ xs.getD i 0 ∧ xs.getD i 0 ≤ W) := fun i hi => allIn_iff.1 h2 i (by omega)
  have hnr := Lib.hid (nest_rows hl hb.out)
  have hln : Hid ((nestL xs W).length = n) := (nest_len xs W).trans hl
  rw [hO]
  have H := Lib.hid h
  obtain ⟨i0, hi, hz0, hz1, hz2⟩ := info_parts infoInt
  clear h hO hl
  go_enter Try.func65, Try.ntmps65
  go_wp2_with fail
  refine (in_any _ _ _ _).mono ?_
  rintro _ w0 ⟨rfl, rfl⟩
  rw [h0]
  go_wp2_with fail
  refine (in_any _ _ _ _).mono ?_
  rintro _ w1 ⟨rfl, rfl⟩
  rw [h1]
  go_wp2_with fail
  refine (each_spec a n cap xs 0 W _ (H.out.alloc _) hm).mono ?_
  rintro _ w2 ⟨rfl, rfl⟩
  rw [h2]
  clear h0 h1 h2
  go_wp2_with fail
  go_loopw [7] (fun i wr => ∃ (k g cap : Nat), k ≤ n ∧ i = .int .i64 k ∧ Gq w.heap.size w wr W g k cap (rowsL (fun i => pw (xs.getD i 0).toNat - 1) k)) (fun i _ => n - (intOf i).toNat)
  case atStart =>
    refine ⟨0, w.heap.size + 1, 0, Nat.zero_le _, rfl, ⟨by go_simp, by go_simp, fun o => by go_simp, by go_simp, by go_simp, fun o => by go_simp, ?_, by omega, (((Below.refl _ _).alloc (Nat.le_refl _) _).alloc (by simp) _).alloc (by simp; omega) _⟩⟩
    exact World.ownsRow.alloc (own_empty _ _ _ (by simp) (Nat.le_refl _)) _
  case round =>
    obtain ⟨k, g, cap, hk, rfl, hF⟩ := hrel
    by_cases hlt : k < n
    · have hF' := Lib.hid hF
      have d0 := hF.d0
      have k1 := hF.d1
      have df := hF.df
      have hR := Lib.hid (H.out.bel hF.bel)
      obtain ⟨b, off, rfl, hck⟩ := row_at hR.out hlt
      have hr := hb.out k hlt
      obtain ⟨x, hx⟩ := Int.eq_ofNat_of_zero_le hr.1
      have hsn := rows_snoc (fun i => pw (xs.getD i 0).toNat - 1) k
      rw [hx] at hck hr
      (try dsimp only at hsn)
      rw [hx, Int.toNat_natCast] at hsn
      replace hsn := Lib.hid hsn
      generalize rowsL (fun i => pw (xs.getD i 0).toNat - 1) k = L at hF hF' hsn
      have hLl : L.length = k := hF.own.len
      have hsz : w.heap.size + 2 < wr.heap.size := block_lt hF.d0
      have hown := Lib.hid (fun o => World.ownsRow.alloc (hF'.out.own.bel (Below.refl _ _).drew) o)
      have hpp := pw_pos x
      have hp2 : pw x ≤ 64 := by have := pw_le x 6 (by omega); have e : pw 6 = 64 := by decide
                                 omega
      have ev : IntKind.i64.wrap (pw x - 1) = pw x - 1 := IntWalk.i64_in _ ⟨by omega, by omega⟩
      have hpw := Lib.hid (power_any x (wr.drew) (by omega))
      clear hF hx hR hLl d0
      go_wp2_with fail
      go_region_law (first | ((go_simp; go_at_call 60; refine hpw.out.mono ?_; rintro e w1 ⟨rfl, rfl⟩)) | ((refine step_append_lies _ (by rfl) _ _ _ (by rfl) (w.heap.size + 1) 3 i0 (.int .i64 0) 1 8 Try.underlying23 hi hz0 hz1 hz2 rfl (by decide) (.slice (some ⟨g, 0, none⟩) k cap) k (L.map (Value.int .i64)) (by rfl) (hown.out _) ⟨wr.heap.size, 0, none⟩ 1 1 [.int .i64 (pw x - 1)] (by rfl) rfl (news_1 _ _ _ (by simp)) (one_i _) (by omega) (by unfold maxLen; omega) (by omega) (by simp; omega) wr.heap.size.succ (by simp) ?_; intro g' cap' w1 hown1 hgrow hat hlt2; obtain ⟨q1, qf, qF⟩ := hF'.out.behind hown1 hgrow hat; clear hown1 hgrow hat hlt2)))
      all_goals go_wp2_with fail
      all_goals exact ⟨⟨k + 1, g', cap', by omega, by go_num, by rw [hsn.out]; exact qF.out⟩, by simp [intOf]; omega⟩
    · have : k = n := by omega
      subst this
      rw [hnr.out] at hF
      have c0 := hF.c0
      have c1 := hF.c1
      have cf := hF.cf
      have d0 := hF.d0
      have d1 := hF.d1
      replace hF := Lib.hid hF
      go_wp2_with fail
      refine bodyPost_ret (v := .tuple #[.agg #[.int .i64 W, .slice (some ⟨g, 0, none⟩) k cap], .bool true]) (by simp [results, Try.results65, go_sem, c0, c1]) rfl ?_
      refine ⟨⟨some ⟨g, 0, none⟩, cap, by rw [hln.out], ?_⟩, (hF.out.bel.setCell (by simp) _).setCell (by simp) _⟩
      show OwnI _ _ _ (nestL xs W).length _ _
      rw [hln.out]
      exact ((hF.out.own.store (by simp) _).store (by simp) _).mono (by omega)
end Go.Proofs.Ytmfncheimmcobaa

namespace Go.Proofs.Ytmfncheimmcobaa
set_option maxRecDepth 100000
open Go.RowKit

theorem bn_ok {xs L : List Int} {W n : Nat} (h : nestB xs W = true) (hL : nestL xs W = L) (lx : xs.length = n) (s : Option Addr) (c : Nat) (w : World) (hR : Row w s n xs) :
    Calls Try.prog 64 #[.slice s n c, .int .i64 W] w (GivesI w W n L) := by
  have hp := nestB_parts h
  have hc := bn_impl s n c xs W w hR (by omega)
  unfold nestOut at hc
  rw [if_pos h, Int.toNat_natCast, hL] at hc
  exact hc.mono fun e w' hg => hg.ok (by rw [← hL, nest_len, lx])
theorem bn_no {xs : List Int} {e : Int} {n : Nat} (h : nestB xs e = false) (hn : n ≤ 13) (s : Option Addr) (c : Nat) (w : World) (hR : Row w s n xs) :
    Calls Try.prog 64 #[.slice s n c, .int .i64 e] w (GivesN w) := by
  have hc := bn_impl s n c xs e w hR (by omega)
  rw [nestOut_no h] at hc
  exact hc
theorem bns_ok {xs L : List Int} {W n : Nat} (h : nestB xs W = true) (hL : nestL xs W = L) (lx : xs.length = n) (s : Option Addr) (c : Nat) (w : World) (hR : Row w s n xs) :
    Calls Try.prog 65 #[.slice s n c, .int .i64 W] w (GivesI w W n L) := by
  have hp := nestB_parts h
  have hc := bn_spec s n c xs W w hR (by omega)
  unfold nestOut at hc
  rw [if_pos h, Int.toNat_natCast, hL] at hc
  exact hc.mono fun e w' hg => hg.ok (by rw [← hL, nest_len, lx])
theorem bns_no {xs : List Int} {e : Int} {n : Nat} (h : nestB xs e = false) (hn : n ≤ 13) (s : Option Addr) (c : Nat) (w : World) (hR : Row w s n xs) :
    Calls Try.prog 65 #[.slice s n c, .int .i64 e] w (GivesN w) := by
  have hc := bn_spec s n c xs e w hR (by omega)
  rw [nestOut_no h] at hc
  exact hc
theorem cge_map (xs : List Int) (c : Int) : cge xs c = lsum (xs.map fun x => if c ≤ x then 1 else 0) := by
  rw [← psum_all, List.length_map]
  exact sum_ext fun i hi => (map_getD (f := fun x => if c ≤ x then 1 else 0) hi).symm
theorem conj_sort {xs : List Int} {n : Nat} (h : elB xs = true) : conjL (sortL xs) n = conjL xs n :=
  rows_ext fun k _ => by rw [cge_map, cge_map]; exact lsum_perm ((sort_perm h).map _)
theorem nestB_W {xs : List Int} {e : Int} (h : nestB xs e = true) : 1 ≤ e ∧ e ≤ 6 := by
  unfold nestB at h
  rw [Bool.and_eq_true, Bool.and_eq_true] at h
  have := inB_iff.1 h.2.1
  omega
end Go.Proofs.Ytmfncheimmcobaa
