/-
  The contract of the model's BuildImage.
-/
import Derived.Test.YtocbnpkdncnbgaaDoorDn
import Derived.Test.YtocbnpkdncnbgaaDoorDm
namespace Go.Proofs.YtocbnpkdncnbgaaDoor
set_option maxRecDepth 100000
open Go.RowKit

/-- What the model's BuildImage holds in its loops: the result's box, the image's box and rows, what is left. -/
structure SB (w wr : World) (g0 kb gl : Nat) (a' : Option Addr) (m n cl : Nat) (ys left cells : List Int) : Prop where
  y0 : wr.cell? ⟨w.heap.size, 0, none⟩ = some (.int .i64 0)
  y1 : wr.cell? ⟨w.heap.size, 1, none⟩ = some (.slice none 0 0)
  yf : ∀ o, wr.frozen? ⟨w.heap.size, o, none⟩ = false
  b0 : wr.cell? ⟨kb, 0, none⟩ = some (.int .i64 m)
  b1 : wr.cell? ⟨kb, 1, none⟩ = some (.slice (some ⟨g0, 0, none⟩) n n)
  hR : Row wr a' m ys
  hL : OwnI wr w.heap.size (some ⟨gl, 0, none⟩) n cl left
  hO : OwnI wr w.heap.size (some ⟨g0, 0, none⟩) n n cells
  bel : Below w.heap.size w wr
  z : w.heap.size < g0 ∧ g0 < kb ∧ kb < gl ∧ gl < wr.heap.size
  far : ∀ q off, a' = some ⟨q, off, none⟩ → 0 < m → q < w.heap.size
variable {w wr w' : World} {g0 kb gl : Nat} {a' : Option Addr} {m n cl : Nat} {ys left left' cells cells' : List Int}
theorem SB.row (S : SB w wr g0 kb gl a' m n cl ys left cells) {row : Option Nat} (hg : wr.grownBy w' row) (hr : ∀ k, row = some k → w.heap.size < k ∧ k ≠ g0 ∧ k ≠ kb ∧ k ≠ gl) : SB w w' g0 kb gl a' m n cl ys left cells := by
  have z := S.z
  have hn : ∀ q, (q = w.heap.size ∨ q = g0 ∨ q = kb ∨ q = gl ∨ q < w.heap.size) → some q ≠ row := fun q hq e => by have := hr q e.symm; omega
  exact ⟨hg.cell S.y0 (hn _ (by simp)), hg.cell S.y1 (hn _ (by simp)), fun o => (World.frozen?_of_block (a := ⟨w.heap.size, o, none⟩) (hg.block w.heap.size (by have := S.z; omega) (hn _ (by simp)))).trans (S.yf o),
    hg.cell S.b0 (hn _ (by simp)), hg.cell S.b1 (hn _ (by simp)), S.hR.apart hg (fun q off e hl => hn q (by have := S.far q off e hl; omega)),
    World.ownsRow.kept S.hL hg (.inr (hn _ (by simp))), World.ownsRow.kept S.hO hg (.inr (hn _ (by simp))),
    S.bel.grown hg S.bel.size (fun k hk => by have := hr k hk; omega), ⟨z.1, z.2.1, z.2.2.1, by have := hg.size; omega⟩, S.far⟩
theorem SB.more (S : SB w wr g0 kb gl a' m n cl ys left cells) (hb : Below wr.heap.size wr w') : SB w w' g0 kb gl a' m n cl ys left cells := S.row (row := none) (below_grown hb none) (fun k hk => by cases hk)
theorem SB.setL (S : SB w wr g0 kb gl a' m n cl ys left cells) (hg : wr.grownBy w' (some gl)) (hL : OwnI w' w.heap.size (some ⟨gl, 0, none⟩) n cl left') : SB w w' g0 kb gl a' m n cl ys left' cells := by
  have z := S.z
  have hn : ∀ q, (q = w.heap.size ∨ q = g0 ∨ q = kb ∨ q < w.heap.size) → some q ≠ some gl := fun q hq e => by cases e; omega
  exact ⟨hg.cell S.y0 (hn _ (by simp)), hg.cell S.y1 (hn _ (by simp)), fun o => (World.frozen?_of_block (a := ⟨w.heap.size, o, none⟩) (hg.block w.heap.size (by have := S.z; omega) (hn _ (by simp)))).trans (S.yf o),
    hg.cell S.b0 (hn _ (by simp)), hg.cell S.b1 (hn _ (by simp)), S.hR.apart hg (fun q off e hl => hn q (by have := S.far q off e hl; omega)),
    hL, World.ownsRow.kept S.hO hg (.inr (hn _ (by simp))),
    S.bel.grown hg S.bel.size (fun k hk => by cases hk; omega), ⟨z.1, z.2.1, z.2.2.1, by have := hg.size; omega⟩, S.far⟩
theorem SB.setO (S : SB w wr g0 kb gl a' m n cl ys left cells) (hg : wr.grownBy w' (some g0)) (hO : OwnI w' w.heap.size (some ⟨g0, 0, none⟩) n n cells') : SB w w' g0 kb gl a' m n cl ys left cells' := by
  have z := S.z
  have hn : ∀ q, (q = w.heap.size ∨ q = gl ∨ q = kb ∨ q < w.heap.size) → some q ≠ some g0 := fun q hq e => by cases e; omega
  exact ⟨hg.cell S.y0 (hn _ (by simp)), hg.cell S.y1 (hn _ (by simp)), fun o => (World.frozen?_of_block (a := ⟨w.heap.size, o, none⟩) (hg.block w.heap.size (by have := S.z; omega) (hn _ (by simp)))).trans (S.yf o),
    hg.cell S.b0 (hn _ (by simp)), hg.cell S.b1 (hn _ (by simp)), S.hR.apart hg (fun q off e hl => hn q (by have := S.far q off e hl; omega)),
    World.ownsRow.kept S.hL hg (.inr (hn _ (by simp))), hO,
    S.bel.grown hg S.bel.size (fun k hk => by cases hk; omega), ⟨z.1, z.2.1, z.2.2.1, by have := hg.size; omega⟩, S.far⟩
theorem best_congr {f g : Nat → Int} {n i : Nat} {u : Nat → Bool} (h : Best f n u i) (hfg : ∀ k, k < n → u k = false → g k = f k) : Best g n u i := by
  refine ⟨h.1, h.2.1, fun k hk hu => ?_⟩
  rcases h.2.2 k hk hu with e | b
  · exact .inl e
  · right
    unfold bet at b ⊢
    rw [hfg k hk hu, hfg i h.1 h.2.1]; exact b
/-- What is left within a column. -/
def lfL (f : Nat → Int) (u : Nat → Bool) (n : Nat) : List Int := rowsL (fun i => f i - if u i = true then 1 else 0) n
theorem lf_get {f : Nat → Int} {u : Nat → Bool} {n i : Nat} (hi : i < n) : (lfL f u n).getD i 0 = f i - if u i = true then 1 else 0 := rows_get (fun i => f i - if u i = true then 1 else 0) hi
theorem lf_set {f : Nat → Int} {u : Nat → Bool} {n i : Nat} (hi : i < n) : (lfL f u n).set i (f i - 1) = lfL f (fun k => u k || decide (k = i)) n :=
  rows_set _ _ hi (by simp) fun k _ hne => by simp [hne]
theorem lf_none {f : Nat → Int} {n : Nat} : lfL f (fun _ => false) n = rowsL f n := rows_ext fun i _ => by simp
/-- The cells of the first columns, and of the column j those used. -/
def upU (f : Nat → Int) (n : Nat) (ys : List Int) (j : Nat) (u : Nat → Bool) (i q : Nat) : Bool := upto f n ys j q i || (decide (q = j) && u i)

theorem upU_next {f : Nat → Int} {n j i : Nat} {ys : List Int} {u : Nat → Bool} (a b : Nat) : upU f n ys j (fun k => u k || decide (k = i)) a b = (upU f n ys j u a b || (decide (a = i) && decide (b = j))) := by
  unfold upU
  rw [Bool.eq_iff_iff]
  simp only [Bool.or_eq_true, Bool.and_eq_true, decide_eq_true_eq]
  constructor
  · rintro (h | ⟨h1, h2 | h2⟩)
    · exact .inl (.inl h)
    · exact .inl (.inr ⟨h1, h2⟩)
    · exact .inr ⟨h2, h1⟩
  · rintro ((h | h) | h)
    · exact .inl h
    · exact .inr ⟨h.1, .inl h.2⟩
    · exact .inr ⟨h.2, .inr h.1⟩
theorem upU_full {f : Nat → Int} {n j : Nat} {ys : List Int} {u : Nat → Bool} {i q : Nat} (hu : u i = chB (leftI f n ys j) n (ys.getD j 0) i) : upU f n ys j u i q = upto f n ys (j + 1) q i := by
  unfold upU upto
  rw [Bool.eq_iff_iff]
  simp only [Bool.or_eq_true, Bool.and_eq_true, decide_eq_true_eq]
  constructor
  · rintro (hh | ⟨rfl, h2⟩)
    · exact ⟨by omega, hh.2⟩
    · exact ⟨by omega, by unfold bcB; rw [← hu]; exact h2⟩
  · rintro ⟨h1, h2⟩
    by_cases e : q < j
    · exact .inl ⟨e, h2⟩
    · obtain rfl : q = j := by omega
      unfold bcB at h2; rw [← hu] at h2
      exact .inr ⟨rfl, h2⟩
theorem lf_full {f : Nat → Int} {n j : Nat} {ys : List Int} {u : Nat → Bool} (hu : ∀ i, i < n → u i = chB (leftI f n ys j) n (ys.getD j 0) i) : lfL (leftI f n ys j) u n = rowsL (leftI f n ys (j + 1)) n :=
  rows_ext fun i hi => by rw [hu i hi]; rfl

set_option maxHeartbeats 4000000 in
theorem bi_spec (a a' : Option Addr) (n m cap cap' : Nat) (xs ys : List Int) (w : World) (h : Row w a n xs) (h' : Row w a' m ys) (hm : n ≤ 9223372036854775807) (hm' : m ≤ 9223372036854775807) :
    Calls Tryd.prog 17 #[.slice a n cap, .slice a' m cap'] w (Gives w (biOut xs ys)) := by
  obtain ⟨i1, ii, iz0, iz1, iz2⟩ := info_parts infoInt
  obtain ⟨i2, bi, bz0, bz1, bz2⟩ := info_parts infoBool
  have hW0 : Below w.heap.size w (w.alloc (.cells #[.int .i64 0, .slice none 0 0] 27)) := (Below.refl _ _).alloc (Nat.le_refl _) _
  have cC := con_spec a a' n m cap cap' xs ys (w.alloc (.cells #[.int .i64 0, .slice none 0 0] 27)) (h.alloc _) (h'.alloc _) hm hm'
  have far := row_lt h
  have far' := row_lt h'
  unfold biOut
  by_cases hc : conB xs ys = true
  case neg =>
    rw [if_neg hc]
    have hc : conB xs ys = false := by simpa using hc
    rw [hc] at cC
    replace cC := Lib.hid cC
    clear h h' far far'
    go_enter Tryd.func17, Tryd.ntmps17
    go_wp2_with fail
    refine cC.out.mono ?_
    rintro e w1 ⟨rfl, hb⟩
    obtain ⟨hc1, hf1⟩ := bcell hb
    have bb1 : Below w.heap.size w w1 := hW0.trans (hb.mono (by simp))
    go_wp2_with fail
    refine bodyPost_ret (v := .tuple #[.agg #[.int .i64 0, .slice none 0 0], .bool false]) (by simp [results, Tryd.results17, go_sem, hc1]) rfl ?_
    exact ⟨⟨none, 0, rfl, own_nil _ _⟩, (bb1.setCell (by simp) _).setCell (by simp) _⟩
  rw [if_pos hc]
  rw [hc] at cC
  have lx := h.1
  have ly := h'.1
  have hp := sumsB_parts (conB_valid hc)
  rw [lx, ly] at hp
  obtain ⟨⟨hn1, hn6⟩, ⟨hm1, hm6⟩, hbx, hby⟩ := hp
  have hbX := Lib.hid hbx
  have hbY := Lib.hid hby
  have H0 := Lib.hid (h.alloc (.cells #[.int .i64 0, .slice none 0 0] 27))
  have H0' := Lib.hid (h'.alloc (.cells #[.int .i64 0, .slice none 0 0] 27))
  have farH' := Lib.hid far'
  have lxH := Lib.hid lx
  have lyH := Lib.hid ly
  replace cC := Lib.hid cC
  clear h h' far far' hc hbx hby lx ly
  go_enter Tryd.func17, Tryd.ntmps17
  go_wp2_with fail
  refine cC.out.mono ?_
  rintro e w1 ⟨rfl, hb⟩
  have hz : w.heap.size < w1.heap.size := by have := hb.size; simp at this; omega
  have y0 : w1.cell? ⟨w.heap.size, 0, none⟩ = some (.int .i64 0) := by rw [(bcell hb).1 _ _ (by simp)]; go_simp
  have y1 : w1.cell? ⟨w.heap.size, 1, none⟩ = some (.slice none 0 0) := by rw [(bcell hb).1 _ _ (by simp)]; go_simp
  have yf : ∀ o, w1.frozen? ⟨w.heap.size, o, none⟩ = false := fun o => by rw [(bcell hb).2 _ _ (by simp)]; go_simp
  have bb1 := Lib.hid (hW0.trans (hb.mono (by simp)))
  have H1 := Lib.hid (H0.out.bel hb)
  have H1' := Lib.hid (H0'.out.bel hb)
  clear hb H0 H0' hW0 cC
  go_wp2_with fail
  refine (blank_spec m n w1 (by omega)).mono ?_
  rintro e w2 ⟨⟨g, rfl, hgg, ho⟩, hb2⟩
  have hz2 := own_lt ho
  replace y0 := kept hb2 (block_lt y0) y0
  replace y1 := kept hb2 (block_lt y1) y1
  replace yf : ∀ o, w2.frozen? ⟨w.heap.size, o, none⟩ = false := fun o => (hb2.frozen (p := ⟨w.heap.size, o, none⟩) hz).trans (yf o)
  replace bb1 := Lib.hid (bb1.out.trans (hb2.mono bb1.out.size))
  replace H1 := Lib.hid (H1.out.bel hb2)
  replace H1' := Lib.hid (H1'.out.bel hb2)
  have ho0 : Hid (OwnI w2 w.heap.size (some ⟨g, 0, none⟩) n n (cellsL (fun _ _ => false) m n)) := by
    rw [cells_none]; exact ho.mono (by omega)
  have hz1 : w.heap.size < g := by omega
  clear ho hb2 hgg
  obtain ⟨w3, hw3⟩ : ∃ w3, w2.alloc (.cells #[.int .i64 m, .slice (some ⟨g, 0, none⟩) n n] 27) = w3 := ⟨_, rfl⟩
  have hb3 : Below w2.heap.size w2 w3 := by rw [← hw3]; exact (Below.refl _ _).alloc (Nat.le_refl _) _
  have a0 : w3.cell? ⟨w2.heap.size, 0, none⟩ = some (.int .i64 m) := by rw [← hw3]; simp
  have a1 : w3.cell? ⟨w2.heap.size, 1, none⟩ = some (.slice (some ⟨g, 0, none⟩) n n) := by rw [← hw3]; simp
  have hz3 : w2.heap.size + 1 = w3.heap.size := by rw [← hw3]; simp
  replace y0 := kept hb3 (block_lt y0) y0
  replace y1 := kept hb3 (block_lt y1) y1
  replace yf : ∀ o, w3.frozen? ⟨w.heap.size, o, none⟩ = false := fun o => (hb3.frozen (p := ⟨w.heap.size, o, none⟩) (show w.heap.size < w2.heap.size by omega)).trans (yf o)
  replace bb1 := Lib.hid (bb1.out.trans (hb3.mono bb1.out.size))
  replace H1 := Lib.hid (H1.out.bel hb3)
  replace H1' := Lib.hid (H1'.out.bel hb3)
  replace ho0 := Lib.hid (ho0.out.bel hb3)
  clear hb3
  go_upto_region 4 with fail
  (try rw [hw3])
  clear hw3
  obtain ⟨x_b, x_o, rfl, x_h⟩ := row_at H1.out (show 0 < n by omega)
  have x_n := Lib.hid (row_news H1.out (by omega))
  clear x_h
  have x_l := H1.out.1
  have x_s := bb1.out.size
  go_wp2_with (at_builtin; refine wpList_append_own _ rfl _ _ 23 rfl w3.heap.size 3 i1 (.int .i64 0) 1 8 Tryd.underlying23 ii iz0 iz1 iz2 rfl (by decide) _ 0 [] rfl (World.ownsRow_lit w3 #[] 0 (Nat.le_refl _) (by decide) rfl) ⟨x_b, x_o, none⟩ n cap ((xs).map (Value.int .i64)) rfl ?c1 ?c2 ?c3 ?c4 ?c5 ?c6 ?_)
  case c1 => simp only [List.length_map]; omega
  case c2 => exact fun j u hj => World.cell?_alloc_some (x_n.out j u hj)
  case c3 => exact ints_oneCell _ _
  case c4 => unfold maxLen; omega
  case c5 => omega
  case c6 => simp
  intro v' w4 hown hgr hnil
  obtain ⟨ax, cx, rfl, ho⟩ := own_of (xs := xs) (n := n) (by simpa using hown)
  have hb : Below w3.heap.size w3 w4 := ((Below.refl _ _).alloc (Nat.le_refl _) _).grown hgr (by simp) (fun k hk => by simp [Value.ownBlock] at hk; omega)
  clear hown hgr hnil x_n
  obtain ⟨gl, rfl⟩ : ∃ g, ax = some ⟨g, 0, none⟩ := by
    rcases ho.cases with ⟨_, h, _⟩ | ⟨g, h, _⟩
    · omega
    · exact ⟨g, h⟩
  have hgl := rng_own ho _ rfl
  have hS0 : Hid (SB w w4 g w2.heap.size gl a' m n cx ys (rowsL (leftI (fun i => xs.getD i 0) n ys 0) n) (cellsL (fun i q => upto (fun i => xs.getD i 0) n ys 0 q i) m n)) := by
    have e1 : rowsL (leftI (fun i => xs.getD i 0) n ys 0) n = xs := by rw [← lxH.out]; exact rows_self xs
    have e2 : cellsL (fun i q => upto (fun i => xs.getD i 0) n ys 0 q i) m n = cellsL (fun _ _ => false) m n := cells_ext fun i q _ _ => by unfold upto; simp
    rw [e1, e2]
    exact ⟨kept hb (block_lt y0) y0, kept hb (block_lt y1) y1, fun o => (hb.frozen (p := ⟨w.heap.size, o, none⟩) (show w.heap.size < w3.heap.size by omega)).trans (yf o), kept hb (block_lt a0) a0, kept hb (block_lt a1) a1, H1'.out.bel hb, ho.mono (by omega), ho0.out.bel hb, bb1.out.trans (hb.mono x_s), ⟨hz1, hz2, by simp at hgl; omega, by simp at hgl; omega⟩, farH'.out⟩
  obtain ⟨f, hf⟩ : ∃ f : Nat → Int, (fun i => xs.getD i 0) = f := ⟨_, rfl⟩
  have hfb : Hid (∀ i, i < n → 0 ≤ f i ∧ f i ≤ m) := fun i hi => by rw [← hf]; exact hbX.out i hi
  have hBL : buildL xs ys = cellsL (bcB f n ys) m n := by unfold buildL; rw [hf, lxH.out, lyH.out]
  rw [hf] at hS0
  clear hf y0 y1 yf bb1 H1 H1' ho0 a0 a1 ho hb hgl hz hz1 hz2 hz3 x_l x_s
  generalize w2.heap.size = kb at *
  replace hBL := Lib.hid hBL
  go_wp2_with fail
  go_loopw [8] (fun i wr => ∃ j : Nat, j ≤ m ∧ i = .int .i64 j ∧ Hid (SB w wr g kb gl a' m n cx ys (rowsL (leftI f n ys j) n) (cellsL (fun i q => upto f n ys j q i) m n))) (fun i _ => m - (intOf i).toNat)
  case atStart => exact ⟨0, Nat.zero_le _, rfl, hS0⟩
  case round =>
    clear hS0
    obtain ⟨j, hj, rfl, hS⟩ := hrel
    obtain ⟨wo, rfl⟩ : ∃ wo : World, wo = wr := ⟨_, rfl⟩
    have hSz := hS.out.bel.size
    have hSb := hS.out.z
    by_cases hlt : j < m
    · go_wp2_with ((refine wpList_make_full wo rfl _ _ 62 rfl 0 4 i2 (.bool false) 1 Tryd.underlying62 bi bz0 bz1 .i64 .i64 n n n rfl rfl rfl rfl ?_ ?_ (Nat.zero_le _) ?_))
      all_goals first | omega | (rw [bz2]; omega) | (unfold maxLen; omega) | skip
      intro w5 ho hg
      have hU0 : OwnB w5 wo.heap.size n (fun _ => false) := by
        unfold OwnB
        have e : (madeCells #[Value.bool false] n).toList = (List.range n).map fun _ => Value.bool false := by
          rw [toList_madeCells_one]
          apply List.ext_getElem (by simp)
          intro k h1 h2; simp
        rw [← e]; exact ho
      have hb5 : Below wo.heap.size wo w5 := (Below.refl _ _).grown hg (Nat.le_refl _) (fun k hk => by cases hk)
      have hgu := (World.ownsRow.lt hU0 _ rfl).2
      have hS5 : Hid (SB w w5 g kb gl a' m n cx ys (lfL (leftI f n ys j) (fun _ => false) n) (cellsL (upU f n ys j (fun _ => false)) m n)) := by
        rw [lf_none, show cellsL (upU f n ys j (fun _ => false)) m n = cellsL (fun i q => upto f n ys j q i) m n from cells_ext fun i q _ _ => by unfold upU; simp]
        exact hS.out.more hb5
      have hsj := hbY.out j hlt
      obtain ⟨c, hcc⟩ := Int.eq_ofNat_of_zero_le hsj.1
      rw [hcc] at hsj
      have hcn : c ≤ n := by omega
      obtain ⟨gu, hguE⟩ : ∃ gu, wo.heap.size = gu := ⟨_, rfl⟩
      rw [hguE] at hU0 hgu hSz hSb ⊢
      have hUs := Used.zero (f := leftI f n ys j) (n := n) (u := fun _ => false) fun _ _ => rfl
      replace hU0 := Lib.hid hU0
      replace hUs := Lib.hid hUs
      replace hcc := Lib.hid hcc
      clear ho hg hb5 hguE hS hsj
      go_wp2_with fail
      go_loopw [10] (fun i wr => ∃ (r : Nat) (u : Nat → Bool), r ≤ c ∧ i = .int .i64 r ∧ Hid (Used (leftI f n ys j) n u r) ∧ Hid (OwnB wr gu n u) ∧ Hid (SB w wr g kb gl a' m n cx ys (lfL (leftI f n ys j) u n) (cellsL (upU f n ys j u) m n))) (fun i _ => c - (intOf i).toNat)
      case atStart => exact ⟨0, fun _ => false, Nat.zero_le _, rfl, hUs, hU0, hS5⟩
      case round =>
        clear hUs hU0 hS5
        obtain ⟨r, u, hr, rfl, hUs, hU, hS⟩ := hrel
        obtain ⟨qb, qo, rfl, cy⟩ := row_at hS.out.hR hlt
        rw [hcc.out] at cy
        by_cases hlr : r < c
        · obtain ⟨k0, hk0, hu0⟩ := hUs.out.left (by omega)
          obtain ⟨i, hi⟩ := best_ex (f := leftI f n ys j) hk0 hu0
          have hin := hi.1
          have hui := hi.2.1
          have hi2 : Best (fun k => (lfL (leftI f n ys j) u n).getD k 0) n u i := best_congr hi fun k hk hu2 => by rw [lf_get hk, hu2]; simp
          have cB := Lib.hid (best_spec (some ⟨gl, 0, none⟩) n cx gu i (lfL (leftI f n ys j) u n) u wr hS.out.hL.row hU.out hi2 (by omega))
          have hUs2 := Lib.hid (hUs.out.next hi (v := fun k => u k || decide (k = i)) fun _ _ => rfl)
          have hlf := lf_set (f := leftI f n ys j) (u := u) hin
          have hget : (lfL (leftI f n ys j) u n).getD i 0 = leftI f n ys j i := by rw [lf_get hin, hui]; simp
          have hbd := left_bd (f := f) (n := n) (j := j) (ys := ys) i
          have hfi := hfb.out i hin
          clear hk0 hu0 hi hi2
          go_wp2_with fail
          refine cB.out.mono ?_
          rintro e w6 ⟨rfl, hb6⟩
          have hS6 := hS.out.more hb6
          have hU6 := hU.out.kept (below_grown hb6 none) (by simp)
          have cu := hU6.cell hin
          have fu := hU6.frozen
          have g7 : w6.grownBy (w6.setCell ⟨gu, i, none⟩ (.bool true)) (some gu) := grown_set (World.grownBy.refl _ _)
          have hS7 := hS6.row g7 (fun k hk => by cases hk; omega)
          have hU7 := hU6.set (i := i)
          have cl := own_cell hS7.hL hin
          have fl := hS7.hL.frozen
          rw [hget] at cl
          have g8 : (w6.setCell ⟨gu, i, none⟩ (.bool true)).grownBy ((w6.setCell ⟨gu, i, none⟩ (.bool true)).setCell ⟨gl, i, none⟩ (.int .i64 (leftI f n ys j i - 1))) (some gl) := grown_set (World.grownBy.refl _ _)
          have hL8 := hS7.hL.set i (leftI f n ys j i - 1)
          rw [hlf] at hL8
          have hS8 := hS7.setL g8 hL8
          have hU8 := hU7.kept g8 (by simp; omega)
          have k0 := hS8.b0
          have k1 := hS8.b1
          have cx6 : w6.cell? ⟨gl, i, none⟩ = some (.int .i64 (leftI f n ys j i)) := by have := own_cell hS6.hL hin; rwa [hget] at this
          have fl6 := hS6.hL.frozen
          have kk0 := hS6.b0
          have kk1 := hS6.b1
          generalize hzz : leftI f n ys j i = z at *
          have i3 : IntKind.i64.wrap (z - 1) = z - 1 := IntWalk.i64_in _ ⟨by omega, by omega⟩
          have nu : gu ≠ gl := by omega
          have nk1 : gu ≠ kb := by omega
          have nk2 : gl ≠ kb := by omega
          have hsr := small_row (c := upU f n ys j u) (w := m) (n := n) hm6 hin
          replace hS8 := Lib.hid hS8
          replace hU8 := Lib.hid hU8
          clear hS6 hU6 g7 hS7 hU7 g8 hL8 hlf hget cB hS hU hUs hb6 cl fl k0 k1 hzz
          go_wp2_with fail
          refine (put_spec m w.heap.size g n n (cellsL (upU f n ys j u) m n) i j true _ hS8.out.hO hin (by omega) hsr.1 hsr.2).mono ?_
          rintro e w9 ⟨rfl, hg9, hO9⟩
          have hO9' : OwnI w9 w.heap.size (some ⟨g, 0, none⟩) n n (cellsL (upU f n ys j (fun k => u k || decide (k = i))) m n) := by
            rw [← cells_put (c := upU f n ys j u) (i := i) (j := j) hm1 hm6 hn1 hn6 hin hlt (fun a b _ _ => upU_next a b)]; exact hO9
          have hS9 := Lib.hid (hS8.out.setO hg9 hO9')
          have hU9 := Lib.hid (hU8.out.kept hg9 (by simp; omega))
          clear hg9 hO9 hO9' hS8 hU8
          go_wp2_with fail
          exact ⟨⟨r + 1, fun k => u k || decide (k = i), by omega, by go_num, hUs2, hU9, hS9⟩, by simp [intOf]; omega⟩
        · obtain rfl : r = c := by omega
          have hch : ∀ i, i < n → u i = chB (leftI f n ys j) n (ys.getD j 0) i := fun i hi => by rw [hcc.out]; exact hUs.out.ch hi
          have hS2 := hS.out
          rw [lf_full hch, show cellsL (upU f n ys j u) m n = cellsL (fun i q => upto f n ys (j + 1) q i) m n from cells_ext fun i q hi _ => upU_full (hch i hi)] at hS2
          replace hS2 := Lib.hid hS2
          clear hch hS hU hUs
          go_wp2_with fail
          exact ⟨⟨j + 1, by omega, by go_num, hS2⟩, by simp [intOf]; omega⟩
    · obtain rfl : j = m := by omega
      have hS2 := hS.out
      rw [show cellsL (fun i q => upto f n ys j q i) j n = cellsL (bcB f n ys) j n from cells_ext fun i q _ hq => by unfold upto; rw [decide_eq_true hq, Bool.true_and], ← hBL.out] at hS2
      have b0 := hS2.b0
      have b1 := hS2.b1
      have y0 := hS2.y0
      have y1 := hS2.y1
      have yf := hS2.yf
      replace hS2 := Lib.hid hS2
      clear hS
      go_wp2_with fail
      refine bodyPost_ret (v := .tuple #[.agg #[.int .i64 j, .slice (some ⟨g, 0, none⟩) n n], .bool true]) (by simp [results, Tryd.results17, go_sem, y0, y1]) rfl ?_
      refine ⟨⟨some ⟨g, 0, none⟩, n, by rw [build_len, lxH.out, lyH.out], ?_⟩, (hS2.out.bel.setCell (by simp) _).setCell (by simp) _⟩
      show OwnI _ _ _ (buildL xs ys).length _ _
      rw [build_len, lxH.out]
      have hz := hS2.out.z
      exact World.ownsRow.kept (World.ownsRow.kept hS2.out.hO (grown_set (World.grownBy.refl _ (some w.heap.size))) (.inr (by simp [Value.ownBlock]; omega))) (grown_set (World.grownBy.refl _ (some w.heap.size))) (.inr (by simp [Value.ownBlock]; omega))
end Go.Proofs.YtocbnpkdncnbgaaDoor

