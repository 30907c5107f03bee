/-
  Lists of switches that came in: the frame, sized, copied, compared, marked.
-/
import Derived.Test.YtnhcknbbkmaiiaaKl
import Derived.Test.YtnhcknbbkmaiiaaQl
import Derived.Test.YtnhcknbbkmaiiaaF
import Derived.Deep.Slices
namespace Go.Proofs.Ytnhcknbbkmaiiaa
set_option maxRecDepth 100000
open Go.RowKit Go.ChangeShapes Go.WideShapes

theorem cellsLS : Try.prog.cellsOf 101 = 4 := by kernel_rfl
theorem add_flat (b off i : Nat) : (⟨b, off, none⟩ : Addr).add i = ⟨b, off + i, none⟩ := by
  unfold Addr.add
  by_cases h : i = 0 <;> simp [h]
theorem open_switches {H : Type} {enc : TypeId × Value → H} {W : World} {base : Nat} {v : Value} {d : DataW H} {p : List MemPlace}
    (hv : Value.okWide Try.prog W .any base 54 v) (h : DataW.Trod enc Try.prog W 0 (fun _ => true) true 54 v d p) :
    ∃ a len cap L, v = .slice a len cap ∧ QRow W a len L ∧ len ≤ 9223372036854775807 := by
  obtain ⟨a1, l1, c1, rfl⟩ := okWide_slice Try.underlying54 hv
  obtain ⟨fuel, hf⟩ := h
  rcases Go.Deep.open_slice Try.underlying54 hf with ⟨hcs, _⟩ | ⟨a, len, cap, m, n, D, Pl, hcs, hb, hl, hm, hmm, _, hx⟩
  · simp [Value.cells] at hcs
    obtain ⟨rfl, rfl, rfl⟩ := hcs
    exact ⟨none, 0, 0, [], rfl, ⟨rfl, .inl rfl⟩, by omega⟩
  · simp [Value.cells] at hcs
    obtain ⟨rfl, rfl, rfl⟩ := hcs
    unfold maxLen at hm
    have hml : l1 ≤ m := by rw [hmm]; simpa using hl
    obtain ⟨b, off, spot⟩ := a
    have each : ∀ i, i < l1 → ∃ q : SwQ, W.cell? ((⟨b, off, spot⟩ : Addr).add (i * 4)) = some (.int .i64 q.1) ∧ W.cell? ((⟨b, off, spot⟩ : Addr).add (i * 4 + 1)) = some (.int .i64 q.2.1) ∧
        W.cell? ((⟨b, off, spot⟩ : Addr).add (i * 4 + 2)) = some (.int .i64 q.2.2.1) ∧ W.cell? ((⟨b, off, spot⟩ : Addr).add (i * 4 + 3)) = some (.int .i64 q.2.2.2) := by
      intro i hi
      obtain ⟨cs', h1, h2⟩ := hx i (by omega)
      rw [cellsLS] at h1
      obtain ⟨_, hlen, hcell⟩ := World.cells?_some h1
      obtain ⟨xs, k, hk, hxy, _, hxl, hf2⟩ := DataW.trod_struct Try.underlying101 h2
      match xs, hxl, cs', hlen with
      | [y0, y1, y2, y3], _, [v0, v1, v2, v3], _ =>
        have g0 := hf2 0 _ rfl
        have g1 := hf2 1 _ rfl
        have g2 := hf2 2 _ rfl
        have g3 := hf2 3 _ rfl
        simp [cellsOfInt] at g0 g1 g2 g3
        obtain ⟨z0, f0, _⟩ := DataW.trod_int Try.underlying3 g0
        obtain ⟨z1, f1, _⟩ := DataW.trod_int Try.underlying3 g1
        obtain ⟨z2, f2, _⟩ := DataW.trod_int Try.underlying3 g2
        obtain ⟨z3, f3, _⟩ := DataW.trod_int Try.underlying3 g3
        simp at f0 f1 f2 f3
        subst f0 f1 f2 f3
        have e0 := hcell 0 (by omega)
        have e1 := hcell 1 (by omega)
        have e2 := hcell 2 (by omega)
        have e3 := hcell 3 (by omega)
        rw [Go.Deep.add_add] at e0 e1 e2 e3
        exact ⟨(z0, z1, z2, z3), by simpa using e0, by simpa using e1, by simpa using e2, by simpa using e3⟩
    obtain ⟨q, hq⟩ := Go.Deep.choose_lt each
    refine ⟨some ⟨b, off, spot⟩, l1, c1, (List.range l1).map q, rfl, ⟨by simp, ?_⟩, by omega⟩
    by_cases h0 : l1 = 0
    · exact .inl h0
    · right
      have hspot : spot = none := by
        have := World.cell?_spot (hq 0 (by omega)).1; simpa [Addr.add] using this
      subst hspot
      refine ⟨b, off, rfl, fun i hi => ?_⟩
      have hi' : i < l1 := by simpa using hi
      have h4 := hq i hi'
      simp only [add_flat] at h4
      rw [List.getElem_map, List.getElem_range]
      exact ⟨h4.1, by have := h4.2.1; rwa [← Nat.add_assoc] at this, by have := h4.2.2.1; rwa [← Nat.add_assoc] at this, by have := h4.2.2.2; rwa [← Nat.add_assoc] at this⟩

/-- 'szSwitchS': what is left of the size. -/
theorem szS_any (a : Option Addr) (n cap : Nat) (k : Int) (w : World) (h0 : 0 ≤ k) (h1 : k ≤ 1048576) (hn : n ≤ 9223372036854775807) :
    Calls Try.prog 58 #[.slice a n cap, .int .i64 k] w fun e w' => e = .returned (.int .i64 (if (n : Int) ≤ k then k - n else -1)) ∧ Below w.heap.size w w' := by
  go_enter Try.func58, Try.ntmps58
  by_cases hc : (n : Int) ≤ k
  · rw [if_pos hc]
    have hd : ¬ k - (n : Int) < 0 := by omega
    go_wp2_with fail
    go_ret
    exact ⟨rfl, Below.refl _ _⟩
  · rw [if_neg hc]
    have hd : k - (n : Int) < 0 := by omega
    go_wp2_with fail
    go_ret
    exact ⟨rfl, Below.refl _ _⟩
set_option maxHeartbeats 1000000 in
theorem toSw_any (A B C D : Int) (w : World) :
    Calls Try.prog 121 #[.agg #[.int .i64 A, .int .i64 B, .int .i64 C, .int .i64 D]] w fun e w' => e = .returned (.agg #[.int .i64 A, .int .i64 B, .int .i64 C, .int .i64 D]) ∧ Below w.heap.size w w' := by
  go_enter Try.func121, Try.ntmps121
  go_wp2_with fail
  refine bodyPost_ret (v := .agg #[.int .i64 A, .int .i64 B, .int .i64 C, .int .i64 D]) (by simp [results, Try.results121, go_sem]) rfl ?_
  exact ⟨rfl, (((Below.refl _ _).alloc (Nat.le_refl _) _).alloc (by simp) _).alloc (by simp; omega) _⟩
theorem flatq_len : ∀ L : List SwQ, (flatQ L).length = L.length * 4
  | [] => rfl
  | q :: L => by
    have e : flatQ (q :: L) = [q.1, q.2.1, q.2.2.1, q.2.2.2] ++ flatQ L := rfl
    rw [e, List.length_append, flatq_len L]; simp; omega
theorem flatq_get : ∀ (L : List SwQ) (k : Nat) (h : k < L.length), (flatQ L).getD (k * 4) 0 = L[k].1 ∧ (flatQ L).getD (k * 4 + 1) 0 = L[k].2.1 ∧ (flatQ L).getD (k * 4 + 2) 0 = L[k].2.2.1 ∧ (flatQ L).getD (k * 4 + 3) 0 = L[k].2.2.2
  | [], k, h => absurd h (Nat.not_lt_zero k)
  | q :: L, 0, _ => ⟨rfl, rfl, rfl, rfl⟩
  | q :: L, k + 1, h => by
    have ih := flatq_get L k (by simpa using h)
    have e : flatQ (q :: L) = q.1 :: q.2.1 :: q.2.2.1 :: q.2.2.2 :: flatQ L := rfl
    rw [e, List.getElem_cons_succ]
    rw [show (k + 1) * 4 = k * 4 + 1 + 1 + 1 + 1 by omega]
    simp only [List.getD_cons_succ]
    exact ih
theorem made_four (n : Nat) : (madeCells #[.int .i64 0, .int .i64 0, .int .i64 0, .int .i64 0] (n * 4)).toList = List.replicate (n * 4) (.int .i64 0) := by
  apply List.ext_getElem?
  intro j
  by_cases hj : j < n * 4
  · have h4 : j % 4 = 0 ∨ j % 4 = 1 ∨ j % 4 = 2 ∨ j % 4 = 3 := by omega
    rcases h4 with e | e | e | e <;> simp [madeCells, hj, e]
  · simp [madeCells, hj]
theorem fill4 {F : List Int} {n k : Nat} (hl : F.length = n * 4) (hk : k < n) :
    (((((F.take (k * 4) ++ List.replicate (n * 4 - k * 4) 0).set (k * 4) (F.getD (k * 4) 0)).set (k * 4 + 1) (F.getD (k * 4 + 1) 0)).set (k * 4 + 2) (F.getD (k * 4 + 2) 0)).set (k * 4 + 3) (F.getD (k * 4 + 3) 0)) = F.take ((k + 1) * 4) ++ List.replicate (n * 4 - (k + 1) * 4) 0 := by
  rw [fill_step hl (by omega), fill_step hl (by omega), show k * 4 + 2 = k * 4 + 1 + 1 by rfl, fill_step hl (by omega), show k * 4 + 3 = k * 4 + 1 + 1 + 1 by rfl, fill_step hl (by omega), show (k + 1) * 4 = k * 4 + 1 + 1 + 1 + 1 by omega]
set_option maxHeartbeats 4000000 in
/-- 'toSwitchS': a copy in new memory. -/
theorem toS_any (a : Option Addr) (n cap : Nat) (L : List SwQ) (w : World) (h : QRow w a n L) (hm : n ≤ 1048576) :
    Calls Try.prog 61 #[.slice a n cap] w fun e w' => (∃ g, e = .returned (.slice (some ⟨g, 0, none⟩) n n) ∧ w.heap.size ≤ g ∧ OwnF w' w.heap.size (some ⟨g, 0, none⟩) n n (flatQ L)) ∧ Below w.heap.size w w' := by
  obtain ⟨i0, hi, hz0, hz1, hz2⟩ := info_parts infoSw
  have hL : L.length = n := h.1
  have hF : (flatQ L).length = n * 4 := by rw [flatq_len, hL]
  have h := Lib.hid h
  replace hL := Lib.hid hL
  replace hF := Lib.hid hF
  go_enter Try.func61, Try.ntmps61
  go_wp2_with ((refine wpList_make_full w rfl _ _ 49 rfl w.heap.size 92 i0 (.agg #[.int .i64 0, .int .i64 0, .int .i64 0, .int .i64 0]) 4 Try.underlying49 hi hz0 hz1 .i64 .i64 n n n rfl rfl rfl rfl ?_ ?_ (Nat.le_refl _) ?_))
  all_goals first | omega | (rw [hz2]; omega) | (unfold maxLen; omega) | skip
  intro w1 ho hg
  have ho0 : Hid (OwnF w1 w.heap.size (some ⟨w.heap.size, 0, none⟩) n n ((flatQ L).take 0 ++ List.replicate (n * 4 - 0) 0)) := by
    rw [made_four] at ho
    refine Lib.hid ?_
    unfold OwnF; simpa [List.map_replicate] using ho
  have hb1 : Hid (Below w.heap.size w w1) := Lib.hid ((Below.refl _ _).grown hg (Nat.le_refl _) (fun k hk => by cases hk))
  clear ho hg
  go_wp2_with fail
  go_loopw [4] (fun i wr => ∃ k : Nat, k ≤ n ∧ i = .int .i64 k ∧ Hid (Below w.heap.size w wr) ∧ Hid (OwnF wr w.heap.size (some ⟨w.heap.size, 0, none⟩) n n ((flatQ L).take (k * 4) ++ List.replicate (n * 4 - k * 4) 0))) (fun i _ => n - (intOf i).toNat)
  case atStart => exact ⟨0, Nat.zero_le _, rfl, hb1, by simpa using ho0⟩
  case round =>
    obtain ⟨k, hk, rfl, hbel, hown⟩ := hrel
    clear ho0 hb1
    by_cases hlt : k < n
    · have hlk : k < L.length := by rw [hL.out]; exact hlt
      obtain ⟨b, off, rfl, hc⟩ := (h.out.2).resolve_left (by omega)
      obtain ⟨c0, c1, c2, c3⟩ := hc k hlk
      obtain ⟨f0, f1, f2, f3⟩ := flatq_get L k hlk
      have hB : Below w.heap.size w wr := hbel.out
      replace c0 := kept hB (block_lt c0) c0
      replace c1 := kept hB (block_lt c1) c1
      replace c2 := kept hB (block_lt c2) c2
      replace c3 := kept hB (block_lt c3) c3
      have hst := fill4 hF.out hlt
      rw [f0, f1, f2, f3] at hst
      clear f0 f1 f2 f3 hc
      generalize L[k].1 = A at *
      generalize L[k].2.1 = B at *
      generalize L[k].2.2.1 = C at *
      generalize L[k].2.2.2 = D at *
      generalize (flatQ L).take (k * 4) ++ List.replicate (n * 4 - k * 4) 0 = G at *
      replace hst := Lib.hid hst
      clear hB
      go_wp2_with fail
      refine (toSw_any A B C D _).mono ?_
      rintro e w2 ⟨rfl, hb⟩
      have hbz := hb.size
      have hown2 := Lib.hid (hown.out.bel hb)
      have hbel2 := Lib.hid (hbel.out.trans (hb.mono (by have := hbel.out.size; omega)))
      clear hown hbel hb c0 c1 c2 c3
      have d0 := hown2.out.cell (c := k * 4) (by omega)
      have d1 := hown2.out.cell (c := k * 4 + 1) (by omega)
      have d2 := hown2.out.cell (c := k * 4 + 2) (by omega)
      have d3 := hown2.out.cell (c := k * 4 + 3) (by omega)
      have hf := hown2.out.frozen
      have hs := (((hown2.out.set (k * 4) A).set (k * 4 + 1) B).set (k * 4 + 2) C).set (k * 4 + 3) D
      rw [hst.out] at hs
      replace hs := Lib.hid hs
      have hB2 : Hid (Below w.heap.size w ((((w2.setCell ⟨w.heap.size, k * 4, none⟩ (.int .i64 A)).setCell ⟨w.heap.size, k * 4 + 1, none⟩ (.int .i64 B)).setCell ⟨w.heap.size, k * 4 + 2, none⟩ (.int .i64 C)).setCell ⟨w.heap.size, k * 4 + 3, none⟩ (.int .i64 D))) := Lib.hid ((((hbel2.out.setCell (Nat.le_refl _) _).setCell (Nat.le_refl _) _).setCell (Nat.le_refl _) _).setCell (Nat.le_refl _) _)
      generalize G.getD (k * 4) 0 = z0 at d0
      generalize G.getD (k * 4 + 1) 0 = z1 at d1
      generalize G.getD (k * 4 + 2) 0 = z2 at d2
      generalize G.getD (k * 4 + 3) 0 = z3 at d3
      go_wp2_with fail
      exact ⟨⟨k + 1, by omega, by go_num, hB2, hs⟩, by simp [intOf]; omega⟩
    · have : k = n := by omega
      subst this
      go_wp2_with fail
      go_ret
      have ho := hown.out
      rw [Nat.sub_self, List.take_of_length_le (by rw [hF.out]; omega)] at ho
      exact ⟨⟨_, rfl, Nat.le_refl _, by simpa using ho⟩, hbel.out⟩
/-- Such a list, to be read. -/
theorem OwnF.qrow {w : World} {B : Nat} {a : Option Addr} {n cap : Nat} {L : List SwQ} (h : OwnF w B a n cap (flatQ L)) : QRow w a n L := by
  have hl := h.len
  rw [flatq_len] at hl
  refine ⟨by omega, ?_⟩
  rcases h.cases with ⟨_, h0⟩ | ⟨g, rfl, _⟩
  · exact .inl h0
  · refine .inr ⟨g, 0, rfl, fun q hq => ?_⟩
    obtain ⟨f0, f1, f2, f3⟩ := flatq_get L q hq
    rw [← f0, ← f1, ← f2, ← f3, Nat.zero_add]
    exact ⟨h.cell (by omega), h.cell (by omega), h.cell (by omega), h.cell (by omega)⟩
set_option maxHeartbeats 1000000 in
theorem eqS_big (a b : Option Addr) (N ca cb : Nat) (F : List Int) (w : World) (h : RowF w a N F) (h' : RowF w b N F) (hN : N ≤ 1048576) :
    Calls Try.prog 64 #[.slice a N ca, .slice b N cb] w fun e w' => e = .returned (.bool true) ∧ Below w.heap.size w w' := by
  have p := Lib.hid h
  have q := Lib.hid h'
  clear h h'
  go_enter Try.func64, Try.ntmps64
  go_wp2_with fail
  go_loopw [5] (fun i wr => ∃ k : Nat, k ≤ N ∧ i = .int .i64 k ∧ Hid (RowF wr a N F) ∧ Hid (RowF wr b N F) ∧ Hid (Below w.heap.size w wr)) (fun i _ => N - (intOf i).toNat)
  case atStart => exact ⟨0, Nat.zero_le _, rfl, p, q, Lib.hid (Below.refl _ _)⟩
  case round =>
    clear p q
    obtain ⟨k, hk, rfl, p, q, bb⟩ := hrel
    by_cases hlt : k < N
    · obtain ⟨g, rfl, x0, x1, x2, x3⟩ := p.out.at hlt
      obtain ⟨g', rfl, y0, y1, y2, y3⟩ := q.out.at hlt
      generalize F.getD (k * 4) 0 = A at x0 y0
      generalize F.getD (k * 4 + 1) 0 = B at x1 y1
      generalize F.getD (k * 4 + 2) 0 = C at x2 y2
      generalize F.getD (k * 4 + 3) 0 = D at x3 y3
      have fx0 := fun p : Bw wr => bw_cell x0 p
      have fx1 := fun p : Bw wr => bw_cell x1 p
      have fx2 := fun p : Bw wr => bw_cell x2 p
      have fx3 := fun p : Bw wr => bw_cell x3 p
      have fy0 := fun p : Bw wr => bw_cell y0 p
      have fy1 := fun p : Bw wr => bw_cell y1 p
      have fy2 := fun p : Bw wr => bw_cell y2 p
      have fy3 := fun p : Bw wr => bw_cell y3 p
      have cA : ∀ p : Bw wr, Calls Try.prog 122 #[.agg #[.int .i64 A, .int .i64 B, .int .i64 C, .int .i64 D], .agg #[.int .i64 A, .int .i64 B, .int .i64 C, .int .i64 D]] p.v (fun e w' => e = .returned (.bool true) ∧ ∃ q : Bw wr, w' = q.v) := fun p => bw_of (eqSw_yes A B C D p.v)
      replace cA := Lib.hid cA
      go_wp2_with fail
      refine wp_region_bw (by kernel_rfl) (by kernel_rfl) ?_
      repeat (go_big_quiet_step (with_reducible exact cA.out _))
      refine wpQuiet_nil ?_
      intro _ hw'
      obtain ⟨pq, rfl⟩ := hw'
      go_wp2_with fail
      exact ⟨⟨k + 1, by omega, by go_num, p.out.bel pq.h, q.out.bel pq.h, bb.out.trans (pq.h.mono bb.out.size)⟩, by simp [intOf]; omega⟩
    · have : k = N := by omega
      subst this
      go_wp2_with fail
      go_ret
      exact ⟨rfl, bb.out⟩

set_option maxHeartbeats 1000000 in
theorem markS_bigA (B : Nat) (g n cap : Nat) (F : List Int) (k : Int) (w : World) (h : OwnF w B (some ⟨g, 0, none⟩) n cap F) (hm : n ≤ 1048576) (h0 : 0 ≤ k) (h1 : k ≤ 4194304) :
    Calls Try.prog 66 #[.slice (some ⟨g, 0, none⟩) n cap, .int .i64 k] w fun e w' => e = .returned (.int .i64 (k + 4 * (n : Int))) ∧ w.grownBy w' (some g) ∧ OwnF w' B (some ⟨g, 0, none⟩) n cap (marks k (n * 4)) := by
  have hl := Lib.hid h.len
  have H := Lib.hid h
  clear h
  go_enter Try.func66, Try.ntmps66
  go_wp2_with fail
  go_loopw [1, 5] (fun q i wr => ∃ j : Nat, j ≤ n ∧ i = .int .i64 j ∧ q = .int .i64 (k + 4 * (j : Int)) ∧ Hid (w.grownBy wr (some g)) ∧ Hid (OwnF wr B (some ⟨g, 0, none⟩) n cap ((marks k (n * 4)).take (j * 4) ++ F.drop (j * 4)))) (fun _ i _ => n - (intOf i).toNat)
  case atStart => exact ⟨0, Nat.zero_le _, rfl, by simp, Lib.hid (World.grownBy.refl _ _), Lib.hid (by simpa using H.out)⟩
  case round =>
    obtain ⟨j, hj, rfl, rfl, hgr, hown⟩ := hrel
    by_cases hlt : j < n
    · have d0 := hown.out.cell (c := j * 4) (by omega)
      have d1 := hown.out.cell (c := j * 4 + 1) (by omega)
      have d2 := hown.out.cell (c := j * 4 + 2) (by omega)
      have d3 := hown.out.cell (c := j * 4 + 3) (by omega)
      have hf := hown.out.frozen
      have hs := (((hown.out.set (j * 4) (k + 4 * (j : Int))).set (j * 4 + 1) (k + 4 * (j : Int) + 1)).set (j * 4 + 2) (k + 4 * (j : Int) + 1 + 1)).set (j * 4 + 3) (k + 4 * (j : Int) + 1 + 1 + 1)
      rw [mark4 hl.out hlt] at hs
      have hg2 : Hid (w.grownBy ((((wr.setCell ⟨g, j * 4, none⟩ (.int .i64 (k + 4 * (j : Int)))).setCell ⟨g, j * 4 + 1, none⟩ (.int .i64 (k + 4 * (j : Int) + 1))).setCell ⟨g, j * 4 + 2, none⟩ (.int .i64 (k + 4 * (j : Int) + 1 + 1))).setCell ⟨g, j * 4 + 3, none⟩ (.int .i64 (k + 4 * (j : Int) + 1 + 1 + 1))) (some g)) := grown_set (grown_set (grown_set (grown_set hgr.out)))
      replace hs := Lib.hid hs
      generalize ((marks k (n * 4)).take (j * 4) ++ F.drop (j * 4)).getD (j * 4) 0 = z0 at d0
      generalize ((marks k (n * 4)).take (j * 4) ++ F.drop (j * 4)).getD (j * 4 + 1) 0 = z1 at d1
      generalize ((marks k (n * 4)).take (j * 4) ++ F.drop (j * 4)).getD (j * 4 + 2) 0 = z2 at d2
      generalize ((marks k (n * 4)).take (j * 4) ++ F.drop (j * 4)).getD (j * 4 + 3) 0 = z3 at d3
      go_wp2_with fail
      exact ⟨⟨j + 1, by omega, by go_num, by go_num, hg2, hs⟩, by simp [intOf]; omega⟩
    · have : j = n := by omega
      subst this
      have hll := hl
      go_wp2_with fail
      go_ret
      have ho := hown.out
      rw [List.take_of_length_le (by rw [marks_len]; omega), List.drop_of_length_le (by rw [hll.out]; omega), List.append_nil] at ho
      exact ⟨rfl, hgr.out, ho⟩

theorem markS_big (B : Nat) (a : Option Addr) (n cap : Nat) (F : List Int) (k : Int) (w : World) (h : OwnF w B a n cap F) (hm : n ≤ 1048576) (h0 : 0 ≤ k) (h1 : k ≤ 4194304) :
    Calls Try.prog 66 #[.slice a n cap, .int .i64 k] w fun e w' => e = .returned (.int .i64 (k + 4 * (n : Int))) ∧ w.grownBy w' (rowOf a) ∧ OwnF w' B a n cap (marks k (n * 4)) := by
  rcases h.cases with ⟨rfl, rfl⟩ | ⟨g, rfl, _, _⟩
  · have H := Lib.hid h
    have hl := h.len
    obtain rfl : F = [] := List.eq_nil_of_length_eq_zero (by omega)
    clear h hl
    go_enter Try.func66, Try.ntmps66
    go_wp2_with fail
    refine wp_loop_rounds 1 ?_
    rw [rounds_succ]
    go_wp2_with fail
    go_ret
    exact ⟨by simp, World.grownBy.refl _ _, H.out⟩
  · exact markS_bigA B g n cap F k w h hm h0 h1

end Go.Proofs.Ytnhcknbbkmaiiaa

