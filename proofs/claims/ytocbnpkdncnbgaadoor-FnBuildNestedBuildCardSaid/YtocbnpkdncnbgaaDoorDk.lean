/-
  The contracts of openLinesOf and take.
-/
import Derived.Test.YtocbnpkdncnbgaaDoorDj
import Derived.Test.YtocbnpkdncnbgaaDoorCe
namespace Go.Proofs.YtocbnpkdncnbgaaDoor
set_option maxRecDepth 100000
open Go.RowKit

/-- The lines of a function. -/
def lns (f : Nat → Int) (n : Nat) : PL := (List.range n).map (pr f)
theorem lns_len (f : Nat → Int) (n : Nat) : (lns f n).length = n := by simp [lns]
theorem lns_get {f : Nat → Int} {n k : Nat} (hk : k < n) : pget (lns f n) k = ((k : Int), f k) := by
  rw [pget_elem (by rw [lns_len]; exact hk)]; simp [lns, pr]
/-- The lines as far as a place. -/
def lnsM (f : Nat → Int) (n j : Nat) : PL := (List.range n).map fun i => if i < j then ((i : Int), f i) else (0, 0)
theorem lnsM_len (f : Nat → Int) (n j : Nat) : (lnsM f n j).length = n := by simp [lnsM]
theorem lnsM_zero (f : Nat → Int) (n : Nat) : lnsM f n 0 = List.replicate n (0, 0) := by
  apply List.ext_getElem (by simp [lnsM])
  intro i h1 h2; simp [lnsM]
theorem lnsM_set {f : Nat → Int} {n j : Nat} : (lnsM f n j).set j ((j : Int), f j) = lnsM f n (j + 1) := by
  apply List.ext_getElem (by simp [lnsM])
  intro i h1 h2
  rw [List.getElem_set]
  by_cases e : j = i
  · subst e; simp [lnsM]
  · rw [if_neg e]; simp only [lnsM, List.getElem_map, List.getElem_range]
    by_cases e2 : i < j
    · rw [if_pos e2, if_pos (by omega)]
    · rw [if_neg e2, if_neg (by omega)]
theorem lnsM_full (f : Nat → Int) (n : Nat) : lnsM f n n = lns f n := by
  unfold lnsM lns
  exact List.map_congr_left fun i hi => by rw [List.mem_range] at hi; rw [if_pos hi]; rfl

theorem made_two (n : Nat) : (madeCells (Value.agg #[.int .i64 0, .int .i64 0]).cells (n * 2)).toList = List.replicate (n * 2) (.int .i64 0) := by
  apply List.ext_getElem?
  intro j
  by_cases hj : j < n * 2
  · rcases Nat.mod_two_eq_zero_or_one j with e | e <;> simp [madeCells, hj, Value.cells, e]
  · simp [madeCells, hj]
theorem own_made {w w1 : World} {n : Nat} (ho : w1.ownsRow 0 104 2 (.slice (some ⟨w.heap.size, 0, none⟩) n n) n (madeCells (Value.agg #[.int .i64 0, .int .i64 0]).cells (n * 2)).toList) : OwnL w1 w.heap.size n n (List.replicate n (0, 0)) := by
  rw [made_two] at ho; unfold OwnL; rw [fl_zero]; exact ho

set_option maxHeartbeats 2000000 in
theorem lines_of (a : Option Addr) (n cap : Nat) (xs : List Int) (w : World) (h : Row w a n xs) (h6 : n ≤ 13) :
    Calls Tryd.prog 60 #[.slice a n cap] w fun e w' => ∃ (b g : Nat) (L : PL), e = .returned (.pointer (some ⟨b, 0, none⟩)) ∧ w.heap.size ≤ b ∧ b < w'.heap.size ∧ w.heap.size ≤ g ∧ g < w'.heap.size ∧ HS w' b g n L ∧ L.Perm (lns (fun i => xs.getD i 0) n) ∧ HP L n 0 ∧ Below w.heap.size w w' := by
  obtain ⟨i0, hi, hz0, hz1, hz2⟩ := info_parts infoLine
  have h := Lib.hid h
  go_enter Tryd.func60, Tryd.ntmps60
  go_wp2_with ((refine wpList_make_full w rfl _ _ 102 rfl 0 104 i0 (.agg #[.int .i64 0, .int .i64 0]) 2 Tryd.underlying102 hi hz0 hz1 .i64 .i64 n n n rfl rfl rfl rfl ?_ ?_ (Nat.zero_le _) ?_))
  all_goals first | omega | (rw [hz2]; omega) | (unfold maxLen; omega) | skip
  intro w1 ho hg
  have hO := own_made ho
  have hb1 : Below w.heap.size w w1 := (Below.refl _ _).grown hg (Nat.le_refl _) (fun k hk => by cases hk)
  have hgl := hO.lt
  have hz := hb1.size
  have hS0 : Hid (HS (w1.alloc (.cells #[.slice (some ⟨w.heap.size, 0, none⟩) n n] 102)) w1.heap.size w.heap.size n (lnsM (fun i => xs.getD i 0) n 0)) := by
    rw [lnsM_zero]
    have ln : (List.replicate n ((0 : Int), (0 : Int))).length = n := List.length_replicate
    refine ⟨by rw [ln]; simp, by rw [ln]; exact hO.kept (below_grown ((Below.refl _ _).alloc (Nat.le_refl _) _) none) (by simp), by simp, by omega⟩
  have hB0 : Hid (Below w.heap.size w (w1.alloc (.cells #[.slice (some ⟨w.heap.size, 0, none⟩) n n] 102))) := hb1.alloc hb1.size _
  clear ho hg hO hb1
  go_wp2_with fail
  generalize hb : w1.heap.size = b at *
  generalize hg : w.heap.size = g at *
  go_loopw [11] (fun i wr => ∃ j : Nat, j ≤ n ∧ i = .int .i64 j ∧ Hid (HS wr b g n (lnsM (fun i => xs.getD i 0) n j)) ∧ Hid (Below g w wr)) (fun i _ => n - (intOf i).toNat)
  case atStart => exact ⟨0, Nat.zero_le _, rfl, hS0, hB0⟩
  case round =>
    obtain ⟨j, hj, rfl, hS, hB⟩ := hrel
    clear hS0 hB0
    by_cases hlt : j < n
    · obtain ⟨b1, o1, rfl, hc⟩ := row_at (h.out.bel (by rw [hg]; exact hB.out)) hlt
      have ln := lnsM_len (fun i => xs.getD i 0) n j
      have x := hS.out.at ln
      have hO := hS.out.own
      rw [ln] at hO
      have c0 := hO.c0 hlt
      have c1 := hO.c1 hlt
      have f0 := hO.frozen
      have hst := hO.set j (j : Int) (xs.getD j 0)
      rw [lnsM_set] at hst
      have hgr : wr.grownBy ((wr.setCell ⟨g, j * 2, none⟩ (.int .i64 j)).setCell ⟨g, j * 2 + 1, none⟩ (.int .i64 (xs.getD j 0))) (some g) := grown_set (grown_set (World.grownBy.refl _ _))
      have hS2 := Lib.hid (hS.out.stored (by rw [ln]; exact hst) ((lnsM_len _ _ _).trans ln.symm) hgr)
      have hB2 := Lib.hid ((hB.out.setCell (show g ≤ (⟨g, j * 2, none⟩ : Addr).block by simp) (.int .i64 j)).setCell (show g ≤ (⟨g, j * 2 + 1, none⟩ : Addr).block by simp) (.int .i64 (xs.getD j 0)))
      generalize (pget (lnsM (fun i => xs.getD i 0) n j) j).1 = y0 at c0
      generalize (pget (lnsM (fun i => xs.getD i 0) n j) j).2 = y1 at c1
      obtain ⟨v, hv⟩ : ∃ v, xs.getD j 0 = v := ⟨_, rfl⟩
      rw [hv] at hc hS2 hB2
      clear hS hB hO hst hgr ln hv
      go_wp2_with fail
      exact ⟨⟨j + 1, by omega, by go_num, hS2, hB2⟩, by simp [intOf]; omega⟩
    · have : j = n := by omega
      subst this
      rw [lnsM_full] at hS
      have lL := lns_len (fun i => xs.getD i 0) j
      replace lL := Lib.hid lL
      go_wp2_with fail
      refine (init_lib hS.out lL.out h6).mono ?_
      rintro e w2 ⟨rfl, L, hS2, hP2, hH2, hC2⟩
      have z2 := block_lt hS2.box
      have z3 := hS2.own.lt
      have hBz := hB.out.size
      rw [hg] at hBz
      replace hB := Lib.hid (hB.out.trans (hC2.below hBz (by omega) (by omega)))
      clear hC2
      replace hS2 := Lib.hid hS2
      replace hP2 := Lib.hid hP2
      replace hH2 := Lib.hid hH2
      go_wp2_with fail
      go_ret
      exact ⟨b, g, L, rfl, by omega, z2, by omega, z3, hS2.out, hP2.out, hH2.out, by rw [hg]; exact hB.out⟩

theorem Ch.setNew {b g k : Nat} {w w' : World} (h : Ch b g w w') (hk : w.heap.size ≤ k) (j : Nat) (v : Value) : Ch b g w (w'.setCell ⟨k, j, none⟩ v) :=
  ⟨h.os, h.tape, h.output, by simpa [World.setCell] using h.size, fun q hq h1 h2 => (Below.heap_setCell _ _ _ _ (show q ≠ k by omega)).trans (h.block q hq h1 h2)⟩
theorem HS.stored_far {w w' : World} {b g cap k : Nat} {L : PL} (h : HS w b g cap L) (hg : w.grownBy w' (some k)) (h1 : k ≠ b) (h2 : k ≠ g) : HS w' b g cap L :=
  ⟨hg.cell h.box (by simpa using Ne.symm h1), h.own.kept hg (by simpa using Ne.symm h2), by rw [World.frozen?_of_block (hg.block b (block_lt h.box) (by simpa using Ne.symm h1))]; exact h.fz, h.ne⟩
/-- The indexes taken. -/
def ix (I : List Nat) (c : Nat) : List Int := rowsL (fun k => ((I.getD k 0 : Nat) : Int)) c
theorem nat_app {I : List Nat} {i k : Nat} : (I ++ [i]).getD k 0 = if k = I.length then i else I.getD k 0 := by
  rw [List.getD_eq_getElem?_getD, List.getD_eq_getElem?_getD]
  by_cases e : k < I.length
  · rw [List.getElem?_append_left e, if_neg (by omega)]
  · by_cases e2 : k = I.length
    · subst e2; simp
    · rw [if_neg e2, List.getElem?_eq_none (by simp; omega), List.getElem?_eq_none (by omega)]
theorem ix_nil (c : Nat) : ix [] c = List.replicate c 0 := by rw [← rows_zero]; exact rows_ext fun _ _ => rfl
theorem ix_set {I : List Nat} {i c : Nat} (h : I.length < c) : (ix I c).set I.length (i : Int) = ix (I ++ [i]) c :=
  rows_set _ _ h (by rw [nat_app, if_pos rfl]) fun k _ hne => by rw [nat_app, if_neg hne]
theorem ix_get {I : List Nat} {c k : Nat} (hk : k < c) : (ix I c).getD k 0 = ((I.getD k 0 : Nat) : Int) := rows_get (fun k => ((I.getD k 0 : Nat) : Int)) hk
theorem ix_len (I : List Nat) (c : Nat) : (ix I c).length = c := rows_len _ _
/-- The lines taken. -/
def tk (f : Nat → Int) (I : List Nat) (c : Nat) : PL := (List.range c).map fun k => if k < I.length then pr f (I.getD k 0) else (0, 0)
theorem tk_len (f : Nat → Int) (I : List Nat) (c : Nat) : (tk f I c).length = c := by simp [tk]
theorem tk_nil (f : Nat → Int) (c : Nat) : tk f [] c = List.replicate c (0, 0) := by
  apply List.ext_getElem (by simp [tk])
  intro i h1 h2; simp [tk]
theorem tk_get {f : Nat → Int} {I : List Nat} {c k : Nat} (hk : k < c) (hI : k < I.length) : pget (tk f I c) k = pr f (I.getD k 0) := by
  rw [pget_elem (by rw [tk_len]; exact hk)]; simp only [tk, List.getElem_map, List.getElem_range]; rw [if_pos hI]
theorem tk_set {f : Nat → Int} {I : List Nat} {i c : Nat} : (tk f I c).set I.length (pr f i) = tk f (I ++ [i]) c := by
  apply List.ext_getElem (by simp [tk])
  intro k h1 h2
  rw [List.getElem_set]
  simp only [tk, List.getElem_map, List.getElem_range]
  by_cases e : I.length = k
  · subst e; rw [if_pos rfl, if_pos (by simp), nat_app, if_pos rfl]
  · rw [if_neg e, nat_app, if_neg (Ne.symm e)]
    by_cases e2 : k < I.length
    · rw [if_pos e2, if_pos (by simp; omega)]
    · rw [if_neg e2, if_neg (by simp; omega)]
theorem back_perm {f : Nat → Int} {I J : List Nat} {m : Nat} {M M' : PL} (hm : m < I.length) (h : M.Perm ((I.take m).map (fun k : Nat => ((k : Int), f k - 1)) ++ J.map (pr f))) (h' : M'.Perm ((((I.getD m 0 : Nat) : Int), f (I.getD m 0) - 1) :: M)) :
    M'.Perm ((I.take (m + 1)).map (fun k : Nat => ((k : Int), f k - 1)) ++ J.map (pr f)) := by
  have e : I.getD m 0 = I[m] := by simp [hm]
  rw [e] at h'
  refine h'.trans ((h.cons _).trans ?_)
  rw [List.take_succ_eq_append_getElem hm, List.map_append, List.append_assoc]
  exact (List.perm_middle).symm

/-- What take leaves. -/
def TakeQ (w : World) (b g cap n c : Nat) (f : Nat → Int) (e : Ending) (w' : World) : Prop :=
  ∃ (q : Nat) (I : List Nat) (L : PL), e = .returned (.slice (some ⟨q, 0, none⟩) c c) ∧ OwnI w' w.heap.size (some ⟨q, 0, none⟩) c c (ix I c) ∧ I.length = c ∧ (∀ k ∈ I, k < n) ∧ (∀ k, k < n → (k ∈ I ↔ chB f n c k = true)) ∧
    HS w' b g cap L ∧ L.Perm (lns (fun i => f i - chI f n c i) n) ∧ HP L n 0 ∧ Ch b g w w'
set_option maxHeartbeats 4000000 in
theorem take_lib {b g cap n c : Nat} {f : Nat → Int} {L : PL} {w : World} (h : HS w b g cap L) (hP : L.Perm (lns f n)) (hH : HP L n 0) (hc : c ≤ n) (hn : n ≤ 6) (hcap : n ≤ cap) (hf : ∀ i, i < n → -100 ≤ f i ∧ f i ≤ 100) :
    Calls Tryd.prog 61 #[.pointer (some ⟨b, 0, none⟩), .int .i64 c] w (TakeQ w b g cap n c f) := by
  obtain ⟨i0, hi, hz0, hz1, hz2⟩ := info_parts infoLine
  obtain ⟨i1, ii, iz0, iz1, iz2⟩ := info_parts infoInt
  have hbl := block_lt h.box
  have hgl := h.own.lt
  have hbg := h.ne
  have hP := Lib.hid hP
  have hH := Lib.hid hH
  have hf := Lib.hid hf
  replace h := Lib.hid h
  go_enter Tryd.func61, Tryd.ntmps61
  go_wp2_with ((refine wpList_make_full w rfl _ _ 23 rfl w.heap.size 3 i1 (.int .i64 0) 1 Tryd.underlying23 ii iz0 iz1 .i64 .i64 c c c rfl rfl rfl rfl ?_ ?_ (Nat.le_refl _) ?_))
  all_goals first | omega | (rw [iz2]; omega) | (unfold maxLen; omega) | skip
  intro w1 ho hg
  have ho0 : OwnI w1 w.heap.size (some ⟨w.heap.size, 0, none⟩) c c (ix [] c) := by
    rw [ix_nil]; unfold OwnI; simpa [toList_madeCells_one, List.map_replicate] using ho
  have hb1 : Below w.heap.size w w1 := (Below.refl _ _).grown hg (Nat.le_refl _) (fun k hk => by cases hk)
  have hl1 := (World.ownsRow.lt ho0 _ rfl).2
  replace h := Lib.hid (h.out.bel hb1)
  have hC1 := Lib.hid (Ch.of (b := b) (g := g) hb1)
  replace ho0 := Lib.hid ho0
  clear ho hg hb1
  go_wp2_with ((refine wpList_make_full w1 rfl _ _ 101 rfl 0 104 i0 (.agg #[.int .i64 0, .int .i64 0]) 2 Tryd.underlying101 hi hz0 hz1 .i64 .i64 c c c rfl rfl rfl rfl ?_ ?_ (Nat.zero_le _) ?_))
  all_goals first | omega | (rw [hz2]; omega) | (unfold maxLen; omega) | skip
  intro w2 ho hg
  have hT0 : OwnL w2 w1.heap.size c c (tk f [] c) := by rw [tk_nil]; exact own_made ho
  have hb2 : Below w1.heap.size w1 w2 := (Below.refl _ _).grown hg (Nat.le_refl _) (fun k hk => by cases hk)
  replace h := Lib.hid (h.out.bel hb2)
  replace hC1 := Lib.hid (hC1.out.trans (Ch.of hb2))
  replace ho0 := Lib.hid (ho0.out.bel hb2)
  replace hT0 := Lib.hid hT0
  clear ho hg hb2
  go_wp2_with fail
  generalize hgi : w.heap.size = gi at *
  generalize hgt : w1.heap.size = gt at *
  have hlL : Hid (L.length = n) := hP.out.length_eq.trans (lns_len f n)
  have hne : gi ≠ gt := by omega
  have hne2 : gt ≠ gi := by omega
  go_loopw [16] (fun i wr => ∃ (m : Nat) (I J : List Nat) (M : PL), m ≤ c ∧ i = .int .i64 m ∧ Hid (I.length = m) ∧ Hid (TS f n I J) ∧ Hid (M.Perm (J.map (pr f))) ∧ Hid (M.length = n - m) ∧ Hid (HP M (n - m) 0) ∧ Hid (HS wr b g cap M) ∧ Hid (OwnI wr gi (some ⟨gi, 0, none⟩) c c (ix I c)) ∧ Hid (OwnL wr gt c c (tk f I c)) ∧ Hid (Ch b g w wr)) (fun i _ => c - (intOf i).toNat)
  case atStart => exact ⟨0, [], List.range n, L, Nat.zero_le _, rfl, rfl, TS.start, hP, hlL, hH, h, ho0, hT0, hC1⟩
  case round =>
    clear hP hlL hH h ho0 hT0 hC1
    obtain ⟨m, I, J, M, hm, rfl, lI, hTS, hP, lM, hH, hS, hO, hT, hC⟩ := hrel
    by_cases hlt : m < c
    · obtain ⟨q, hq⟩ : ∃ q, n - m = q + 1 := ⟨n - m - 1, by omega⟩
      rw [hq] at lM hH
      have ta := ta_line
      go_wp2_with fail
      refine (hpop_lib hS.out lM.out (by omega) hH.out).mono ?_
      rintro e w3 ⟨x, M2, rfl, hS2, hx2, hmin, hH2, hC2⟩
      obtain ⟨i, J2, hp1, rfl, hP2, hbest⟩ := pop_pr hP.out hx2 hmin
      have lI' := lI.out
      have hTS2 := Lib.hid (hTS.out.step hp1 hbest)
      have lM2 : Hid (M2.length = n - (m + 1)) := by
        have := hx2.length_eq
        rw [lM.out] at this
        simp at this
        show M2.length = n - (m + 1)
        omega
      have hqm : q = n - (m + 1) := by omega
      rw [hqm] at hH2
      have hO2 := hC2.own hO.out (fun p e => by cases e; exact ⟨show gi ≠ b by omega, show gi ≠ g by omega⟩)
      have hT2 := hC2.ownL hT.out (show gt ≠ b by omega) (show gt ≠ g by omega)
      have c0 := hT2.c0 hlt
      have c1 := hT2.c1 hlt
      have f0 := hT2.frozen
      have d0 := own_cell hO2 (i := m) (by omega)
      have f1 := hO2.frozen
      have g1 : w3.grownBy ((w3.setCell ⟨gt, m * 2, none⟩ (.int .i64 (pr f i).1)).setCell ⟨gt, m * 2 + 1, none⟩ (.int .i64 (pr f i).2)) (some gt) := grown_set (grown_set (World.grownBy.refl _ _))
      have hT3 := hT2.set m (pr f i).1 (pr f i).2
      rw [show ((pr f i).1, (pr f i).2) = pr f i from rfl, ← lI', tk_set, lI'] at hT3
      have hO3 := World.ownsRow.kept hO2 g1 (.inr (by simpa [Value.ownBlock] using hne))
      have hS3 := hS2.stored_far g1 (show gt ≠ b by omega) (show gt ≠ g by omega)
      have g2 : ((w3.setCell ⟨gt, m * 2, none⟩ (.int .i64 (pr f i).1)).setCell ⟨gt, m * 2 + 1, none⟩ (.int .i64 (pr f i).2)).grownBy (((w3.setCell ⟨gt, m * 2, none⟩ (.int .i64 (pr f i).1)).setCell ⟨gt, m * 2 + 1, none⟩ (.int .i64 (pr f i).2)).setCell ⟨gi, m, none⟩ (.int .i64 i)) (some gi) := grown_set (World.grownBy.refl _ _)
      have hO4 := OwnI.set hO3 m (i : Int)
      rw [← lI', ix_set (by omega), lI'] at hO4
      have hT4 := hT3.kept g2 (by simpa using hne2)
      have hS4 := hS3.stored_far g2 (show gi ≠ b by omega) (show gi ≠ g by omega)
      have hC4 := ((hC.out.trans hC2).setNew (k := gt) (by omega) (m * 2) (.int .i64 (pr f i).1)).setNew (k := gt) (by omega) (m * 2 + 1) (.int .i64 (pr f i).2)
      replace hC4 := hC4.setNew (k := gi) (by omega) m (.int .i64 i)
      have lI2 : Hid ((I ++ [i]).length = m + 1) := by show (I ++ [i]).length = m + 1; simp [lI']
      obtain ⟨z, hz⟩ : ∃ z, f i = z := ⟨_, rfl⟩
      unfold pr at hT4 hS4 hC4 hO4 ta ⊢
      dsimp only at hT4 hS4 hC4 hO4 ⊢
      rw [hz] at hT4 hS4 hC4 hO4
      simp only [hz]
      generalize (pget (tk f I c) m).1 = y0 at c0
      generalize (pget (tk f I c) m).2 = y1 at c1
      generalize (ix I c).getD m 0 = y2 at d0
      replace hT4 := Lib.hid hT4
      replace hS4 := Lib.hid hS4
      replace hC4 := Lib.hid hC4
      replace hO4 := Lib.hid hO4
      replace hP2 := Lib.hid hP2
      replace hH2 := Lib.hid hH2
      clear hS2 hx2 hmin hC2 hp1 hbest lI' hqm hO2 hT2 g1 hT3 hO3 hS3 g2 hq lI hTS hP lM hH hS hO hT hC
      go_wp2_with fail
      exact ⟨⟨m + 1, I ++ [i], J2, M2, by omega, by go_num, lI2, hTS2, hP2, lM2, hH2, hS4, hO4, hT4, hC4⟩, by simp [intOf]; omega⟩
    · have hmc : c = m := by omega
      subst hmc
      have lI' := lI.out
      have hP0 : Hid (M.Perm ((I.take 0).map (fun k : Nat => ((k : Int), f k - 1)) ++ J.map (pr f))) := hP
      go_wp2_with fail
      go_loopw [37] (fun i wq => ∃ (r : Nat) (N : PL), r ≤ c ∧ i = .int .i64 r ∧ Hid (N.Perm ((I.take r).map (fun k : Nat => ((k : Int), f k - 1)) ++ J.map (pr f))) ∧ Hid (N.length = n - c + r) ∧ Hid (HP N (n - c + r) 0) ∧ Hid (HS wq b g cap N) ∧ Hid (OwnI wq gi (some ⟨gi, 0, none⟩) c c (ix I c)) ∧ Hid (OwnL wq gt c c (tk f I c)) ∧ Hid (Ch b g w wq)) (fun i _ => c - (intOf i).toNat)
      case atStart => exact ⟨0, M, Nat.zero_le _, rfl, hP0, lM, hH, hS, hO, hT, hC⟩
      case round =>
        clear hP0 hP lM hH hS hO hT hC
        obtain ⟨r, N, hr, rfl, hP, lN, hH, hS, hO, hT, hC⟩ := hrel
        by_cases hlr : r < c
        · have hTo := hT.out
          have c0 := hTo.c0 hlr
          have c1 := hTo.c1 hlr
          have hI := tk_get (f := f) (I := I) (c := c) hlr (by omega)
          rw [hI] at c0 c1
          have hmem : I.getD r 0 ∈ I := by
            rw [List.getD_eq_getElem?_getD, List.getElem?_eq_getElem (by omega)]; exact List.getElem_mem _
          have hin := hTS.out.mem.2 (.inl hmem)
          have hfi := hf.out _ hin
          have hbk := Lib.hid (fun M' => back_perm (f := f) (I := I) (J := J) (m := r) (M := N) (M' := M') (by omega) hP.out)
          unfold pr at c0 c1
          dsimp only at c0 c1
          generalize I.getD r 0 = i at *
          obtain ⟨z, hz⟩ : ∃ z, f i = z := ⟨_, rfl⟩
          rw [hz] at c1 hfi hbk
          have i3 : IntKind.i64.wrap (z - 1) = z - 1 := IntWalk.i64_in _ ⟨by omega, by omega⟩
          clear hTo hI hmem hz
          go_wp2_with fail
          refine (hpush_lib (x := (i : Int)) (y := z - 1) (N := n - c + r) (hS.out.bel (by first | exact (Below.refl _ _).alloc (Nat.le_refl _) _ | exact ((Below.refl _ _).alloc (Nat.le_refl _) _).setCell (by simp) _)) lN.out (by omega) (by omega) hH.out).mono ?_
          rintro e w5 ⟨rfl, N2, hS2, hP2, hH2, hC2⟩
          have hC3 := (Ch.of (b := b) (g := g) (show Below wr.heap.size wr _ from by first | exact (Below.refl _ _).alloc (Nat.le_refl _) _ | exact ((Below.refl _ _).alloc (Nat.le_refl _) _).setCell (by simp) _)).trans hC2
          have hO2 := Lib.hid (hC3.own hO.out (fun p e => by cases e; exact ⟨show gi ≠ b by omega, show gi ≠ g by omega⟩))
          have hT2 := Lib.hid (hC3.ownL hT.out (show gt ≠ b by omega) (show gt ≠ g by omega))
          have hC4 := Lib.hid (hC.out.trans hC3)
          have lN2 : Hid (N2.length = n - c + (r + 1)) := by
            have := hP2.length_eq
            rw [List.length_cons, lN.out] at this
            exact this
          have hP3 := Lib.hid (hbk.out N2 hP2)
          have hH3 : Hid (HP N2 (n - c + (r + 1)) 0) := hH2
          replace hS2 := Lib.hid hS2
          clear hC3 hC2 hP2 hH2 hP lN hH hS hO hT hC hbk c0 c1
          go_wp2_with fail
          exact ⟨⟨r + 1, N2, by omega, by go_num, hP3, lN2, hH3, hS2, hO2, hT2, hC4⟩, by simp [intOf]; omega⟩
        · have hrc : c = r := by omega
          subst hrc
          have hP' := hP.out
          rw [List.take_of_length_le (by omega)] at hP'
          have hdone := hTS.out.done hP'
          rw [lI'] at hdone
          have hch : Hid (∀ k, k < n → (k ∈ I ↔ chB f n c k = true)) := fun k hk => by
            have := hTS.out.ch hk
            rwa [lI'] at this
          have hmm : Hid (∀ k ∈ I, k < n) := fun k hk => hTS.out.mem.2 (.inl hk)
          have hHd : Hid (HP N n 0) := by
            have := hH.out
            rwa [show n - c + c = n by omega] at this
          replace hdone := Lib.hid hdone
          replace lI' := Lib.hid lI'
          clear hP' hH hP lN hT hTS
          go_wp2_with fail
          go_ret
          exact ⟨gi, I, N, rfl, by rw [hgi]; exact hO.out, lI'.out, hmm.out, hch.out, hS.out, hdone.out, hHd.out, hC.out⟩
end Go.Proofs.YtocbnpkdncnbgaaDoor

