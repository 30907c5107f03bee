/-
  The contracts of the program's function that lists the switches of an image, down to the library's function that collects them.
-/
import Derived.Test.YteejopkimlkhoaaRe
import Derived.Test.YteejopkimlkhoaaKb
import Derived.Maps.AppendAt
namespace Go.Proofs.Yteejopkimlkhoaa
set_option maxRecDepth 100000
open Go.RowKit
attribute [local go_sem] Oper.semAt_some

/-- What a round of AppendSeq may turn: the box of its slice, and the slice. -/
def AM (n : Nat) (k : Nat) (o : Obj) : Prop := k = n ∨ (n ≤ k ∧ ∃ cs fr, o = .cells cs 37 fr)
def AI (w : World) (pre : List SwT) (V : World) : Prop := (∃ v, Boxed V w.heap.size 41 v ∧ V.ownsRow w.heap.size 37 4 v pre.length ((flatS pre).map (Value.int .i64))) ∧ Below w.heap.size w V
theorem ai_stays (w : World) : Stays (w.heap.size + 1) (AI w) := fun pre A C hi hs => by
  obtain ⟨⟨v, hb, hr⟩, hB⟩ := hi
  exact ⟨⟨v, hs.fbox hb, hs.frow hr⟩, stays_below (β := Unit) (by omega) (Nat.le_refl _) () _ _ hB hs⟩
def swObj (x : SwT) : Obj := .cells #[.int .i64 x.1, .int .i64 x.2.1, .int .i64 x.2.2.1, .int .i64 x.2.2.2] 37
theorem swx_cells {V : World} {b : Nat} {x : SwT} (h : V.heap[b]? = some (swObj x)) : V.cell? ⟨b, 0, none⟩ = some (.int .i64 x.1) ∧ V.cell? ⟨b, 1, none⟩ = some (.int .i64 x.2.1) ∧ V.cell? ⟨b, 2, none⟩ = some (.int .i64 x.2.2.1) ∧ V.cell? ⟨b, 3, none⟩ = some (.int .i64 x.2.2.2) := by
  simp [World.cell?, h, swObj]

set_option maxHeartbeats 2000000 in
theorem appendSeq_any (lb : Array Value) (L : List SwT) (hL : L.length ≤ 135) (w : World)
    (hseq : ∀ V, Below w.heap.size w V → w.heap.size < V.heap.size → Deals Try.prog 107 lb encT L (fun k o => AM w.heap.size k o ∨ (w.heap.size + 1 ≤ k ∧ k < V.heap.size)) V) :
    Calls Try.prog 111 #[.slice none 0 0, .func (.func 107) #[] lb] w (GivesX w L) := by
  replace hseq := Lib.hid hseq
  obtain ⟨i0, hi, hz0, hz1, hz2⟩ := info_parts infoSw
  refine (callsIn_wide (n := 3)).1 ?_
  refine callsIn_of_wp_marks Try.func111 rfl trivial ?_ rfl
  simp only [Try.ntmps111, List.size_toArray, List.length_cons, List.length_nil, Nat.reduceAdd, Nat.reduceSub, Array.replicate_succ, Array.replicate_zero, List.push_toArray, List.append_toArray, List.nil_append, List.cons_append]
  gi_wp2
  have bS := Boxed.new w 41 (.slice none 0 0)
  have hb0 : Below w.heap.size w (w.alloc (.cells #[.slice none 0 0] 41)) := (Below.refl _ _).alloc (Nat.le_refl _) _
  have hN : (w.alloc (.cells #[.slice none 0 0] 41)).heap.size = w.heap.size + 1 := by simp
  obtain ⟨w1, hw1⟩ : ∃ w1, w.alloc (.cells #[.slice none 0 0] 41) = w1 := ⟨_, rfl⟩
  rw [hw1] at bS hb0 hN ⊢
  clear hw1
  have hI0 : AI w [] w1 := ⟨⟨_, bS, World.ownsRow_nil _ _ _ _⟩, hb0⟩
  replace hN := Lib.hid hN
  refine range_out (gf := 107) (lb := lb) (M := AM w.heap.size) (encs := encT) (I := AI w) (Ix := fun _ _ => False)
    (Ax := fun pre x a1 V => AI w pre V ∧ ∃ b5, (w.heap.size < b5 ∧ V.heap[b5]? = some (swObj x)) ∧ a1 = {
      tmps :=
        #[.slice none 0 0, .func (.func 107) #[] lb, .pointer (some ⟨w.heap.size, 0, none⟩), undef, .slice none 0 0, .pointer (some ⟨b5, 0, none⟩),
          .func (.func 107) #[] lb, .agg #[.int .i64 x.1, .int .i64 x.2.1, .int .i64 x.2.2.1, .int .i64 x.2.2.2], undef, undef, undef, undef, undef],
      defers := [] })
    rfl (enters_of Try.func107 (by kernel_rfl) rfl) (fun _ => rfl) L ?hM ?hseq ?hI ?hIx ?hAx ?h0 ?assign ?body ?done ?stop
  case hM =>
    rintro k o hk (rfl | ⟨_, cs, fr, rfl⟩)
    · have := hN.out; omega
    · rfl
  case hseq =>
    intro V hV
    have h1 := hN.out
    have h2 := hV.size
    have := hseq.out V (hb0.trans (hV.mono (by omega))) (by omega)
    rw [h1]
    exact this
  case hI => rw [hN.out]; exact ai_stays w
  case hIx => exact fun _ _ _ _ hi _ => hi
  case hAx =>
    rintro pre x a1 _ A C ⟨hi, b5, ⟨hb5, hx⟩, e⟩ hs
    exact ⟨ai_stays w _ _ _ hi (by rw [← hN.out]; exact hs), b5, ⟨hb5, hs.same _ _ hx fun hf => by cases hf.2⟩, e⟩
  case h0 => exact hI0
  case assign =>
    rintro l1 pre x post V e hi hlt
    have hz := hi.2.size
    replace hi := Lib.hid hi
    replace e := Lib.hid e
    unfold encT
    gi_wp2
    exact ⟨(Spare.refl _ _).alloc _, ai_stays w _ _ _ hi.out ((Spare.refl _ _).alloc _), V.heap.size, ⟨by have := hN.out; omega, World.alloc_heap_new V _⟩, by simp⟩
  case body =>
    rintro l1 pre x post a1 V e hl hr ⟨⟨⟨v, hv, hrow⟩, hB⟩, b5, ⟨hb5, hx⟩, rfl⟩
    have hpl : pre.length ≤ 135 := by rw [e] at hL; simp at hL; omega
    obtain ⟨cl, hcl⟩ : ∃ cl, pre.length = cl := ⟨_, rfl⟩
    rw [hcl] at hrow hpl
    have hr5 := hrow
    replace e := Lib.hid e
    replace hcl := Lib.hid hcl
    obtain ⟨t0, t1, t2, t3⟩ := swx_cells hx
    have c0 := hv.cell
    have f0 := hv.frozen
    have hz := hB.size
    replace hB := Lib.hid hB
    replace hv := Lib.hid hv
    replace hx := Lib.hid hx
    gi_wp2_with (gi_at_builtin; refine wpListIn_append_own _ rfl _ _ 41 rfl w.heap.size 37 i0 (.agg #[.int .i64 0, .int .i64 0, .int .i64 0, .int .i64 0]) 4 32 Try.underlying41 hi hz0 hz1 hz2 rfl (by decide) v cl ((flatS pre).map (Value.int .i64)) rfl (World.ownsRow.alloc hrow _) ⟨V.heap.size, 0, none⟩ 1 1 [.int .i64 x.1, .int .i64 x.2.1, .int .i64 x.2.2.1, .int .i64 x.2.2.2] rfl rfl ?c1 ?c2 ?c3 ?c4 ?c5 ?_)
    case c1 => intro j u hj; match j, hj with | 0, hj | 1, hj | 2, hj | 3, hj => simp at hj; subst hj; simp [Addr.add]
    case c2 => intro u hu; simp at hu; rcases hu with rfl | rfl | rfl | rfl <;> rfl
    case c3 => unfold maxLen; omega
    case c4 => omega
    case c5 => simp; omega
    intro v' w6 hown' hgrow _
    obtain ⟨g', cap', rfl⟩ := ownsRow_succ hown'
    obtain ⟨hv1, hv2, hr2, _, hb2⟩ := hv.out.appended (by decide) hrow hz (Nat.le_refl _) hown' hgrow
    have c1 := hv1.cell
    have f1 := hv1.frozen
    have hsp : Spare (AM w.heap.size) V w6 := ((Spare.refl _ _).alloc _).grown hgrow fun k o e1 e2 => by
      rcases (hrow).2 with ⟨rfl, _⟩ | ⟨g, cap, cur, rfl, h1, h2, _⟩
      · cases e1
      · simp [Value.ownBlock] at e1
        subst e1
        rw [Below.heap_alloc _ _ _ (heap_lt h2), h2] at e2
        cases e2
        exact .inr (.inr ⟨h1, _, _, rfl⟩)
    replace hr2 := Lib.hid hr2
    replace hv2 := Lib.hid hv2
    replace hb2 := Lib.hid hb2
    replace hsp := Lib.hid hsp
    clear hown' hgrow hv1
    gi_wp2
    refine ⟨hsp.out.set _ (.inr fun o _ => .inl rfl), ⟨_, hv2.out, ?_⟩, hB.out.trans hb2.out⟩
    rw [List.length_append, hcl.out, show pre ++ [x] = pre ++ [(x.1, x.2.1, x.2.2.1, x.2.2.2)] from rfl, sflat_snoc, List.map_append]
    exact hr2.out
  case done =>
    rintro D V hD ⟨⟨v, hbx, hown⟩, hbel⟩ hdf
    have c1 := hbx.cell
    replace hbel := Lib.hid hbel
    replace hown := Lib.hid hown
    gi_wp2
    refine ⟨by simp, .inl ⟨_, _, rfl, run_takeDeferred hdf, ?_⟩⟩
    exact ⟨_, results_tmp rfl _ _ _, ⟨v, rfl, ownsRow_putObj hown.out _ hdf rfl⟩, stays_below (β := Unit) (m := w.heap.size) (Nat.le_refl _) (Nat.le_refl _) () _ _ hbel.out ((Spare.refl _ _).put _ hdf (.inr ⟨by have := hN.out; omega, rfl⟩))⟩
  case stop =>
    rintro D c V hD h hdf
    exact h.elim

theorem am_old {n k : Nat} {o : Obj} (h : k < n) : ¬ AM n k o := fun hm => by rcases hm with h1 | ⟨h1, _⟩ <;> omega

/-- The switches of an image that may not be valid. -/
def listS (W : Int) (xs : List Int) : List SwT := if validB W xs = true then swL (cellOf xs) W.toNat xs.length else []

set_option maxHeartbeats 1000000 in
theorem collect_any (B : Nat) (W : Int) (n cap : Nat) (s : Option Addr) (xs : List Int) (w : World) (hS : SI B W n cap s xs w) (hm : n ≤ 9223372036854775807) :
    Calls Try.prog 77 #[.func (.func 107) #[] #[.pointer (some ⟨B, 0, none⟩)]] w (GivesX w (listS W xs)) := by
  have hl := hS.row.1
  have hB := block_lt hS.c0
  simp only at hB
  have hrl := Lib.hid (row_lt' hS.row)
  have hlen : (listS W xs).length ≤ 135 := by
    unfold listS
    split
    · rename_i hv
      have h1 := validB_W hv
      have h2 := validB_len hv
      exact swl_135 _ (by omega) (by omega)
    · simp
  have hc := appendSeq_any #[.pointer (some ⟨B, 0, none⟩)] (listS W xs) hlen w (fun V hV hz => by
    by_cases hv : validB W xs = true
    · have h1 := validB_W hv
      obtain ⟨W, rfl⟩ := Int.eq_ofNat_of_zero_le (by omega : 0 ≤ W)
      have hI : Im W n xs := Im.of hv hl
      rw [show listS W xs = swL (cellOf xs) W n by rw [← hl]; exact if_pos hv]
      refine switches_deals B W n cap s xs _ V (hS.bel hV) hI (fun A C hs h => h.spare hs (fun o hm => ?_) (fun b off e hn o hm => ?_)) (fun k o hk hm => ?_)
      · rcases hm with h | h
        · exact am_old hB h
        · omega
      · have := hrl.out b off e hn
        rcases hm with h | h
        · exact am_old this h
        · omega
      · rcases hm with h | h
        · rcases h with h | h
          · omega
          · exact h.2
        · omega
    · have hv : validB W xs = false := by simpa using hv
      rw [show listS W xs = [] by unfold listS; rw [if_neg (by rw [hv]; simp)]]
      exact switches_none B W n cap s xs _ V (hS.bel hV) hv hm)
  replace hc := Lib.hid hc
  go_enter Try.func77, Try.ntmps77
  go_wp2_with fail
  refine hc.out.mono ?_
  rintro e w1 ⟨⟨v, rfl, ho⟩, hb⟩
  have hr := Lib.hid (And.intro ho hb)
  clear ho hb
  go_wp2_with fail
  go_ret
  exact ⟨⟨v, rfl, hr.out.1⟩, hr.out.2⟩

set_option maxHeartbeats 1000000 in
theorem swlist_impl (W : Int) (a : Option Addr) (n cap : Nat) (xs : List Int) (w : World) (h : Row w a n xs) (hm : n ≤ 9223372036854775807) :
    Calls Try.prog 35 #[.agg #[.int .i64 W, .slice a n cap]] w (GivesX w (listS W xs)) := by
  have hb2 : Below w.heap.size w ((w.alloc (.cells #[.int .i64 W, .slice a n cap] 25)).alloc (.cells #[.int .i64 W, .slice a n cap] 25)) := ((Below.refl _ _).alloc (Nat.le_refl _) _).alloc (by simp) _
  have hS : SI (w.heap.size + 1) W n cap a xs ((w.alloc (.cells #[.int .i64 W, .slice a n cap] 25)).alloc (.cells #[.int .i64 W, .slice a n cap] 25)) := ⟨by go_simp, by go_simp, h.bel hb2⟩
  have hc := Lib.hid (collect_any _ _ _ _ _ _ _ hS hm)
  replace hb2 := Lib.hid hb2
  clear hS h
  go_enter Try.func35, Try.ntmps35
  go_wp2_with fail
  refine (switchesOf_any _ _ _ _ _).mono ?_
  rintro e w' ⟨rfl, rfl⟩
  go_wp2_with fail
  refine hc.out.mono ?_
  rintro e w1 ⟨⟨v, rfl, ho⟩, hb⟩
  have hr := Lib.hid (And.intro ho hb)
  clear ho hb hc
  go_wp2_with fail
  go_ret
  have hs := hb2.out.size
  refine ⟨⟨v, rfl, ?_⟩, hb2.out.trans (hr.out.2.mono hs)⟩
  have ho := hr.out.1
  exact ⟨ho.1, ho.2.imp id fun ⟨g, c, cur, e1, e2, r⟩ => ⟨g, c, cur, e1, by omega, r⟩⟩
end Go.Proofs.Yteejopkimlkhoaa

