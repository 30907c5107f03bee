/-
  The contract of the program's function that does the first switch of an image.
-/
import Derived.Test.YtgbbigekamapiaaRg
import Derived.Test.YtgbbigekamapiaaRh
namespace Go.Proofs.Ytgbbigekamapiaa
set_option maxRecDepth 100000
open Go.RowKit
attribute [local go_sem] Oper.semAt_some

/-- What doing the first switch gives. -/
def firstOut (W : Int) (xs : List Int) : Out := match listS W xs with
  | [] => .no
  | s :: _ => ⟨true, W, flL xs W.toNat xs.length s.1 s.2.1 s.2.2.1 s.2.2.2⟩
theorem firstOut_nil {W : Int} {xs : List Int} (h : listS W xs = []) : firstOut W xs = .no := by unfold firstOut; rw [h]
theorem firstOut_cons {W : Int} {xs : List Int} {s : SwT} {l : List SwT} (h : listS W xs = s :: l) : firstOut W xs = ⟨true, W, flL xs W.toNat xs.length s.1 s.2.1 s.2.2.1 s.2.2.2⟩ := by unfold firstOut; rw [h]

theorem Spare.fblock {m : Nat} {A B : World} (h : Spare (Free m) A B) {p : Addr} {v : Value} (hc : A.cell? p = some v) : B.heap[p.block]? = A.heap[p.block]? := by
  obtain ⟨o, ho, hi⟩ := cells_of_cell hc
  exact (h.same _ _ ho fun hf => by have := hf.2; rw [hi] at this; cases this).trans ho.symm
/-- Ahead of the first switch: the boxes of the image and of the two results. -/
structure FA (w V : World) (W : Int) (n cap : Nat) (a : Option Addr) (xs : List Int) : Prop where
  x0 : V.cell? ⟨w.heap.size, 0, none⟩ = some (.int .i64 W)
  x1 : V.cell? ⟨w.heap.size, 1, none⟩ = some (.slice a n cap)
  y0 : V.cell? ⟨w.heap.size + 1, 0, none⟩ = some (.int .i64 0)
  y1 : V.cell? ⟨w.heap.size + 1, 1, none⟩ = some (.slice none 0 0)
  yf : ∀ o, V.frozen? ⟨w.heap.size + 1, o, none⟩ = false
  z0 : V.cell? ⟨w.heap.size + 1 + 1, 0, none⟩ = some (.bool false)
  zf : V.frozen? ⟨w.heap.size + 1 + 1, 0, none⟩ = false
  row : Row V a n xs
  bel : Below w.heap.size w V
theorem FA.free {w A B : World} {W : Int} {n cap : Nat} {a : Option Addr} {xs : List Int} {m : Nat} (h : FA w A W n cap a xs) (hs : Spare (Free m) A B) (hm : w.heap.size ≤ m) : FA w B W n cap a xs :=
  ⟨hs.fcell h.x0, hs.fcell h.x1, hs.fcell h.y0, hs.fcell h.y1, fun o => (World.frozen?_of_block (a := ⟨w.heap.size + 1, o, none⟩) (hs.fblock (p := ⟨w.heap.size + 1, 0, none⟩) h.y0)).trans (h.yf o), hs.fcell h.z0, (hs.ffrozen h.z0).trans h.zf, hs.srow h.row, stays_below (β := Unit) hm (Nat.le_refl _) () _ _ h.bel hs⟩
theorem FA.move {w A B : World} {W : Int} {n cap : Nat} {a : Option Addr} {xs : List Int} (h : FA w A W n cap a xs) (hb : Below A.heap.size A B) : FA w B W n cap a xs :=
  h.free (m := w.heap.size) (Spare.below hb (Nat.le_refl _)) (Nat.le_refl _)

/-- Behind it: the results. -/
structure FB (w V : World) (W : Int) (m c : Nat) (a : Option Addr) (ys : List Int) : Prop where
  y0 : V.cell? ⟨w.heap.size + 1, 0, none⟩ = some (.int .i64 W)
  y1 : V.cell? ⟨w.heap.size + 1, 1, none⟩ = some (.slice a m c)
  z0 : V.cell? ⟨w.heap.size + 1 + 1, 0, none⟩ = some (.bool true)
  own : OwnI V w.heap.size a m c ys
  bel : Below w.heap.size w V
theorem FB.free {w A B : World} {W : Int} {m c : Nat} {a : Option Addr} {ys : List Int} {k : Nat} (h : FB w A W m c a ys) (hs : Spare (Free k) A B) (hm : w.heap.size ≤ k) : FB w B W m c a ys :=
  ⟨hs.fcell h.y0, hs.fcell h.y1, hs.fcell h.z0, hs.frow h.own, stays_below (β := Unit) hm (Nat.le_refl _) () _ _ h.bel hs⟩

/-- The iterator over the switches of any image. -/
theorem switches_all (B : Nat) (W : Int) (n cap : Nat) (s : Option Addr) (xs : List Int) (M : Nat → Obj → Prop) (w0 : World) (hS : SI B W n cap s xs w0) (hm : n ≤ 9223372036854775807)
    (hK : ∀ A C, Spare M A C → SI B W n cap s xs A → SI B W n cap s xs C) (hM : ∀ k o, w0.heap.size ≤ k → M k o → ∃ cs fr, o = .cells cs 42 fr) :
    Deals Try.prog 93 #[.pointer (some ⟨B, 0, none⟩)] encT (listS W xs) M w0 := by
  have hl := hS.row.1
  by_cases hv : validB W xs = true
  · have h1 := validB_W hv
    obtain ⟨W, rfl⟩ := Int.eq_ofNat_of_zero_le (by omega : 0 ≤ W)
    rw [show listS W xs = swL (cellOf xs) W n by rw [← hl]; exact if_pos hv]
    exact switches_deals B W n cap s xs M w0 hS (Im.of hv hl) hK hM
  · have hv : validB W xs = false := by simpa using hv
    rw [show listS W xs = [] by unfold listS; rw [if_neg (by rw [hv]; simp)]]
    exact switches_none B W n cap s xs M w0 hS hv hm
theorem listS_im {W : Int} {n : Nat} {xs : List Int} (hl : xs.length = n) {s : SwT} (h : s ∈ listS W xs) : ∃ W' : Nat, W = W' ∧ Im W' n xs ∧ s.1 < s.2.1 ∧ s.2.1 < n ∧ s.2.2.1 < s.2.2.2 ∧ s.2.2.2 < W' ∧ swC (cellOf xs) s.1 s.2.1 s.2.2.1 s.2.2.2 = true := by
  unfold listS at h
  split at h
  · rename_i hv
    have h1 := validB_W hv
    obtain ⟨W, rfl⟩ := Int.eq_ofNat_of_zero_le (by omega : 0 ≤ W)
    rw [hl, Int.toNat_natCast] at h
    have hm := swl_mem.1 (show (s.1, s.2.1, s.2.2.1, s.2.2.2) ∈ swL (cellOf xs) W n from h)
    exact ⟨W, rfl, Im.of hv hl, hm.1, hm.2.1, hm.2.2.1, hm.2.2.2.1, hm.2.2.2.2⟩
  · simp at h

theorem set3 {V : World} {b : Nat} {u0 u1 u2 : Value} (v0 v1 v2 : Value) (h0 : V.cell? ⟨b + 1, 0, none⟩ = some u0) (h1 : V.cell? ⟨b + 1, 1, none⟩ = some u1) (h2 : V.cell? ⟨b + 1 + 1, 0, none⟩ = some u2) :
    (((V.setCell ⟨b + 1, 0, none⟩ v0).setCell ⟨b + 1, 1, none⟩ v1).setCell ⟨b + 1 + 1, 0, none⟩ v2).cell? ⟨b + 1, 0, none⟩ = some v0 ∧ (((V.setCell ⟨b + 1, 0, none⟩ v0).setCell ⟨b + 1, 1, none⟩ v1).setCell ⟨b + 1 + 1, 0, none⟩ v2).cell? ⟨b + 1, 1, none⟩ = some v1 ∧ (((V.setCell ⟨b + 1, 0, none⟩ v0).setCell ⟨b + 1, 1, none⟩ v1).setCell ⟨b + 1 + 1, 0, none⟩ v2).cell? ⟨b + 1 + 1, 0, none⟩ = some v2 := by
  have e1 : (V.setCell ⟨b + 1, 0, none⟩ v0).cell? ⟨b + 1, 1, none⟩ = some u1 := by rw [World.cell?_setCell_other _ _ _ _ (by simp)]; exact h1
  have e2 : ((V.setCell ⟨b + 1, 0, none⟩ v0).setCell ⟨b + 1, 1, none⟩ v1).cell? ⟨b + 1 + 1, 0, none⟩ = some u2 := by
    rw [World.cell?_setCell_other _ _ _ _ (by simp), World.cell?_setCell_other _ _ _ _ (by simp)]; exact h2
  refine ⟨?_, ?_, World.cell?_setCell_same _ _ _ e2⟩
  · rw [World.cell?_setCell_other _ _ _ _ (by simp), World.cell?_setCell_other _ _ _ _ (by simp)]; exact World.cell?_setCell_same _ _ _ h0
  · rw [World.cell?_setCell_other _ _ _ _ (by simp)]; exact World.cell?_setCell_same _ _ _ e1
theorem bel3 {w V : World} {v0 v1 v2 : Value} (h : Below w.heap.size w V) : Below w.heap.size w (((V.setCell ⟨w.heap.size + 1, 0, none⟩ v0).setCell ⟨w.heap.size + 1, 1, none⟩ v1).setCell ⟨w.heap.size + 1 + 1, 0, none⟩ v2) :=
  ((h.setCell (by simp) _).setCell (by simp) _).setCell (by simp; omega) _

set_option maxHeartbeats 2000000 in
theorem swfirst_impl (W : Int) (a : Option Addr) (n cap : Nat) (xs : List Int) (w : World) (h : Row w a n xs) (hm : n ≤ 9223372036854775807) :
    Calls Try.prog 37 #[.agg #[.int .i64 W, .slice a n cap]] w (Gives w (firstOut W xs)) := by
  have hl := Lib.hid h.1
  have hrl := Lib.hid (row_lt' h)
  obtain ⟨W0, hW0⟩ : ∃ W0, W0 = ((w.alloc (.cells #[.int .i64 W, .slice a n cap] 25)).alloc (.cells #[.int .i64 0, .slice none 0 0] 25)).alloc (.cells #[.bool false] 4) := ⟨_, rfl⟩
  have hbb : Below w.heap.size w W0 := by subst hW0; exact (((Below.refl _ _).alloc (Nat.le_refl _) _).alloc (by simp) _).alloc (by simp; omega) _
  have hF : FA w W0 W n cap a xs := ⟨by subst hW0; go_simp, by subst hW0; go_simp, by subst hW0; go_simp, by subst hW0; go_simp, fun o => by subst hW0; go_simp, by subst hW0; go_simp, by subst hW0; go_simp, h.bel hbb, hbb⟩
  have hz : W0.heap.size = w.heap.size + 3 := by subst hW0; simp
  replace hz := Lib.hid hz
  have x0 := hF.x0
  have x1 := hF.x1
  clear h hbb
  refine (callsIn_wide (n := 3)).1 ?_
  refine callsIn_of_wp_marks Try.func37 rfl trivial ?_ rfl
  simp only [Try.ntmps37, List.size_toArray, List.length_cons, List.length_nil, Nat.reduceAdd, Nat.reduceSub, Array.replicate_succ, Array.replicate_zero, List.push_toArray, List.append_toArray, List.nil_append, List.cons_append]
  gi_wp2
  rw [← hW0]
  clear hW0
  refine ⟨trivial, (callsIn_wide.2 (switchesOf_any W a n cap _)).mono ?_⟩
  rintro e w' ⟨rfl, rfl⟩
  have hba : Below W0.heap.size W0 (W0.alloc (.cells #[.int .i64 W, .slice a n cap] 25)) := (Below.refl _ _).alloc (Nat.le_refl _) _
  have S1 : SI W0.heap.size W n cap a xs (W0.alloc (.cells #[.int .i64 W, .slice a n cap] 25)) := ⟨by go_simp, by go_simp, hF.row.bel hba⟩
  have hF1 := hF.move hba
  have hN : (W0.alloc (.cells #[.int .i64 W, .slice a n cap] 25)).heap.size = W0.heap.size + 1 := by simp
  clear x0 x1 hba hF
  gi_wp2
  obtain ⟨w1, hw1⟩ : ∃ w1, W0.alloc (.cells #[.int .i64 W, .slice a n cap] 25) = w1 := ⟨_, rfl⟩
  rw [hw1] at S1 hF1 hN ⊢
  clear hw1
  replace hN := Lib.hid hN
  refine range_out (gf := 93) (lb := #[.pointer (some ⟨W0.heap.size, 0, none⟩)]) (M := fun k _ => k = w.heap.size + 1 ∨ k = w.heap.size + 2) (encs := encT)
    (I := fun pre V => pre = [] ∧ FA w V W n cap a xs)
    (Ix := fun c V => c = .ret ∧ ∃ (x : SwT) (post : List SwT) (ag : Option Addr) (cg : Nat), listS W xs = x :: post ∧ FB w V W n cg ag (flL xs W.toNat n x.1 x.2.1 x.2.2.1 x.2.2.2))
    (Ax := fun pre x a1 V => (pre = [] ∧ FA w V W n cap a xs) ∧ ∃ b5, (w.heap.size + 2 < b5 ∧ V.heap[b5]? = some (swObj x)) ∧ a1 = {
      tmps :=
        #[.agg #[.int .i64 W, .slice a n cap], .pointer (some ⟨w.heap.size, 0, none⟩), .pointer (some ⟨w.heap.size + 1, 0, none⟩), .pointer (some ⟨w.heap.size + 1 + 1, 0, none⟩), .pointer (some ⟨b5, 0, none⟩),
          .agg #[.int .i64 W, .slice a n cap], .func (.func 93) #[] #[.pointer (some ⟨W0.heap.size, 0, none⟩)],
          .agg #[.int .i64 x.1, .int .i64 x.2.1, .int .i64 x.2.2.1, .int .i64 x.2.2.2], undef, undef, undef, undef, undef, undef],
      defers := [] })
    rfl (enters_of Try.func93 (by kernel_rfl) rfl) (fun _ => rfl) (listS W xs) ?hM ?hseq ?hI ?hIx ?hAx ?h0 ?assign ?body ?done ?stop
  case hM =>
    rintro k o hk h
    have := hN.out
    have := hz.out
    omega
  case hseq =>
    intro V hV
    have h1 := hN.out
    have h2 := hV.size
    have h3 := hz.out
    refine switches_all W0.heap.size W n cap a xs _ V (S1.bel (hV.mono (by omega))) hm (fun A C hs h => h.spare hs (fun o hm => ?_) (fun b off e hn o hm => ?_)) (fun k o hk hm => ?_)
    · omega
    · have := hrl.out b off e hn
      omega
    · omega
  case hI => exact fun pre A C hi hs => ⟨hi.1, hi.2.free hs (by have := hN.out; have := hz.out; omega)⟩
  case hIx =>
    rintro c _ A C ⟨e, x, post, ag, cg, e2, hi⟩ hs
    exact ⟨e, x, post, ag, cg, e2, hi.free hs (by have := hN.out; have := hz.out; omega)⟩
  case hAx =>
    rintro pre x a1 _ A C ⟨hi, b5, ⟨hb5, hx⟩, e⟩ hs
    exact ⟨⟨hi.1, hi.2.free hs (by have := hN.out; have := hz.out; omega)⟩, b5, ⟨hb5, hs.same _ _ hx fun hf => by cases hf.2⟩, e⟩
  case h0 => exact ⟨rfl, hF1⟩
  case assign =>
    rintro l1 pre x post V e ⟨hp, hi⟩ hlt
    replace hi := Lib.hid hi
    replace e := Lib.hid e
    replace hp := Lib.hid hp
    unfold encT
    gi_wp2
    exact ⟨(Spare.refl _ _).alloc _, ⟨hp.out, hi.out.free (m := w.heap.size) ((Spare.refl _ _).alloc _) (Nat.le_refl _)⟩, V.heap.size, ⟨by have := hN.out; have := hz.out; omega, World.alloc_heap_new V _⟩, by simp⟩
  case body =>
    rintro l1 pre x post a1 V e hlx hr ⟨⟨rfl, hi⟩, b5, ⟨hb5, hx⟩, rfl⟩
    rw [List.nil_append] at e
    obtain ⟨W', rfl, hI, h1, h2, h3, h4, hs⟩ := listS_im hl.out (show x ∈ listS W xs by rw [e]; simp)
    have hc := swdo_impl W' a n cap xs x.1 x.2.1 x.2.2.1 x.2.2.2 V hi.row hm
    rw [doOut_yes hI (by rw [okB_yes hI h1 h2 h3 h4]; exact hs)] at hc
    obtain ⟨R, hR⟩ : ∃ R, flL xs W' n x.1 x.2.1 x.2.2.1 x.2.2.2 = R := ⟨_, rfl⟩
    have hRl : R.length = n := by rw [← hR, fll_len]
    rw [hR] at hc
    have hc2 : Calls Try.prog 33 #[.agg #[.int .i64 W', .slice a n cap], .agg #[.int .i64 x.1, .int .i64 x.2.1, .int .i64 x.2.2.1, .int .i64 x.2.2.2]] V (GivesI V W' n R) := hc.mono fun e w' hg => hg.ok hRl
    replace hc2 := Lib.hid hc2
    replace hR := Lib.hid hR
    replace e := Lib.hid e
    obtain ⟨t0, t1, t2, t3⟩ := swx_cells hx
    have x0 := hi.x0
    have x1 := hi.x1
    clear hc hI hs hRl
    gi_wp2
    refine ⟨trivial, (CallsIn.inRound l1 (callsIn_wide.2 hc2.out)).mono ?_⟩
    rintro e' w5 ⟨⟨ag, cg, rfl, ho⟩, hb⟩
    have hF5 := hi.move hb
    have hz5 := hi.bel.size
    have y0 := hF5.y0
    have y1 := hF5.y1
    have yf := hF5.yf
    have z0 := hF5.z0
    have zf := hF5.zf
    have hsp : Spare (fun k _ => k = w.heap.size + 1 ∨ k = w.heap.size + 2) V w5 := Spare.below hb (Nat.le_refl _)
    replace ho := Lib.hid ho
    replace hF5 := Lib.hid hF5
    replace hsp := Lib.hid hsp
    clear t0 t1 t2 t3 x0 x1 hb hi hx
    gi_wp2
    have h3 := set3 (.int .i64 W') (.slice ag n cg) (.bool true) y0 y1 z0
    have hbv : w.heap.size + 3 ≤ V.heap.size := by have := heap_lt hr.choose_spec; have := hN.out; have := hz.out; omega
    refine ⟨((hsp.out.set _ (.inr fun o _ => .inl rfl)).set _ (.inr fun o _ => .inl rfl)).set _ (.inr fun o _ => .inr rfl), rfl, x, post, ag, cg, e.out, h3.1, h3.2.1, h3.2.2, ?_, bel3 hF5.out.bel⟩
    rw [Int.toNat_natCast, hR.out]
    exact (((ho.out.store (show w.heap.size + 1 < V.heap.size by omega) _).store (show w.heap.size + 1 < V.heap.size by omega) _).store (show w.heap.size + 1 + 1 < V.heap.size by omega) _).mono hz5
  case done =>
    rintro D V hD ⟨hnil, hi⟩ hdf
    have y0 := hi.y0
    have y1 := hi.y1
    have yf := hi.yf
    have z0 := hi.z0
    have zf := hi.zf
    replace hi := Lib.hid hi
    replace hnil := Lib.hid hnil
    gi_wp2
    have hDz : w.heap.size + 2 < D := by have := hN.out; have := hz.out; omega
    have h3 := set3 (.int .i64 0) (.slice none 0 0) (.bool false) y0 y1 z0
    have hdf3 : (((V.setCell ⟨w.heap.size + 1, 0, none⟩ (.int .i64 0)).setCell ⟨w.heap.size + 1, 1, none⟩ (.slice none 0 0)).setCell ⟨w.heap.size + 1 + 1, 0, none⟩ (.bool false)).heap[D]? = some (.deferred (some [])) := by
      rw [Below.heap_setCell _ _ _ _ (by simp; omega), Below.heap_setCell _ _ _ _ (by simp; omega), Below.heap_setCell _ _ _ _ (by simp; omega)]; exact hdf
    have hb3 : Below w.heap.size w (((V.setCell ⟨w.heap.size + 1, 0, none⟩ (.int .i64 0)).setCell ⟨w.heap.size + 1, 1, none⟩ (.slice none 0 0)).setCell ⟨w.heap.size + 1 + 1, 0, none⟩ (.bool false)) := bel3 hi.out.bel
    generalize ((V.setCell ⟨w.heap.size + 1, 0, none⟩ (.int .i64 0)).setCell ⟨w.heap.size + 1, 1, none⟩ (.slice none 0 0)).setCell ⟨w.heap.size + 1 + 1, 0, none⟩ (.bool false) = U at h3 hdf3 hb3 ⊢
    refine ⟨by simp, .inl ⟨_, _, rfl, run_takeDeferred hdf3, ?_⟩⟩
    have hs : Spare (Free w.heap.size) U (U.putObj D (.deferred none)) := (Spare.refl _ _).put (.deferred none) hdf3 (.inr ⟨by omega, rfl⟩)
    have q0 := hs.fcell h3.1
    have q1 := hs.fcell h3.2.1
    have q2 := hs.fcell h3.2.2
    refine ⟨.tuple #[.agg #[.int .i64 0, .slice none 0 0], .bool false], by simp [results, Try.results37, go_sem, q0, q1, q2], ?_⟩
    rw [firstOut_nil hnil.out]
    exact ⟨⟨none, 0, rfl, own_nil _ _⟩, stays_below (β := Unit) (m := w.heap.size) (Nat.le_refl _) (Nat.le_refl _) () _ _ hb3 hs⟩
  case stop =>
    rintro D c V hD ⟨rfl, x, post, ag, cg, e, hi⟩ hdf
    replace e := Lib.hid e
    replace hi := Lib.hid hi
    gi_wp2
    refine ⟨by simp, .inl ⟨_, _, rfl, run_takeDeferred hdf, ?_⟩⟩
    have hi2 := hi.out.free (k := w.heap.size) ((Spare.refl _ _).put (.deferred none) hdf (.inr ⟨by have := hN.out; have := hz.out; omega, rfl⟩)) (Nat.le_refl _)
    have y0 := hi2.y0
    have y1 := hi2.y1
    have z0 := hi2.z0
    refine ⟨.tuple #[.agg #[.int .i64 W, .slice ag n cg], .bool true], by simp [results, Try.results37, go_sem, y0, y1, z0], ?_⟩
    rw [firstOut_cons e.out, hl.out]
    refine ⟨⟨ag, cg, by rw [fll_len], ?_⟩, hi2.bel⟩
    show OwnI _ _ _ (flL xs W.toNat n x.1 x.2.1 x.2.2.1 x.2.2.2).length _ (flL xs W.toNat n x.1 x.2.1 x.2.2.1 x.2.2.2)
    rw [fll_len]
    exact hi2.own
end Go.Proofs.Ytgbbigekamapiaa

