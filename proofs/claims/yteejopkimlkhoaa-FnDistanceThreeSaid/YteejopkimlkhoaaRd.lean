/-
  The contract of the iterator over the switches of an image: it gives all of them, in their order.
-/
import Derived.Test.YteejopkimlkhoaaRb
import Derived.Test.YteejopkimlkhoaaRc
namespace Go.Proofs.Yteejopkimlkhoaa
set_option maxRecDepth 100000
open Go.RowKit
attribute [local go_sem] Oper.semAt_some

theorem switchesOf_any (W : Int) (a : Option Addr) (n cap : Nat) (w : World) :
    Calls Try.prog 72 #[.agg #[.int .i64 W, .slice a n cap]] w fun e w' => e = .returned (.func (.func 107) #[] #[.pointer (some ⟨w.heap.size, 0, none⟩)]) ∧ w' = w.alloc (.cells #[.int .i64 W, .slice a n cap] 25) := by
  go_enter Try.func72, Try.ntmps72
  go_wp2
  go_ret
  exact ⟨rfl, rfl⟩

def encT (s : SwT) : Array Value := #[.agg #[.int .i64 s.1, .int .i64 s.2.1, .int .i64 s.2.2.1, .int .i64 s.2.2.2]]
/-- The box of an image that the iterator holds. -/
structure SI (B : Nat) (W : Int) (n cap : Nat) (s : Option Addr) (xs : List Int) (V : World) : Prop where
  c0 : V.cell? ⟨B, 0, none⟩ = some (.int .i64 W)
  c1 : V.cell? ⟨B, 1, none⟩ = some (.slice s n cap)
  row : Row V s n xs
theorem Spare.srow {m : Nat} {A B : World} (h : Spare (Free m) A B) {s : Option Addr} {n : Nat} {xs : List Int} (hr : Row A s n xs) : Row B s n xs :=
  ⟨hr.1, hr.2.imp id fun ⟨b, off, e, hc⟩ => ⟨b, off, e, fun i hi => h.fcell (hc i hi)⟩⟩
theorem SI.free {B : Nat} {W : Int} {n cap : Nat} {s : Option Addr} {xs : List Int} {A C : World} {m : Nat} (h : SI B W n cap s xs A) (hs : Spare (Free m) A C) : SI B W n cap s xs C :=
  ⟨hs.fcell h.c0, hs.fcell h.c1, hs.srow h.row⟩
theorem SI.bel {B : Nat} {W : Int} {n cap : Nat} {s : Option Addr} {xs : List Int} {A C : World} (h : SI B W n cap s xs A) (hb : Below A.heap.size A C) : SI B W n cap s xs C :=
  h.free (m := 0) (Spare.below hb (Nat.le_refl _))

set_option maxHeartbeats 1000000 in
/-- At an image that is not valid it gives nothing. -/
theorem switches_none (B : Nat) (W : Int) (n cap : Nat) (s : Option Addr) (xs : List Int) (M : Nat → Obj → Prop) (w0 : World) (hS : SI B W n cap s xs w0) (hv : validB W xs = false) (hm : n ≤ 9223372036854775807) :
    Deals Try.prog 107 #[.pointer (some ⟨B, 0, none⟩)] encT [] M w0 := by
  intro l J Jx hJ hJx hY h0
  replace hY := Lib.hid hY
  replace hJ := Lib.hid hJ
  replace hJx := Lib.hid hJx
  replace h0 := Lib.hid h0
  have hb1 : Below w0.heap.size w0 (w0.alloc (.cells #[.func (.yield l) #[] #[]] 97)) := (Below.refl _ _).alloc (Nat.le_refl _) _
  have r1 := Lib.hid (hS.row.bel hb1)
  have x0 := hS.c0
  have x1 := hS.c1
  have b0 := block_lt x0
  simp only at b0
  refine callsIn_of_wp_marks Try.func107 rfl trivial ?_ rfl
  simp only [Try.ntmps107, List.size_toArray, List.length_cons, List.length_nil, Nat.reduceAdd, Nat.reduceSub, Array.replicate_succ, Array.replicate_zero, List.push_toArray, List.append_toArray, List.nil_append, List.cons_append]
  gi_wp2
  refine ⟨trivial, (callsIn_wide.2 (valid_impl W s n cap xs _ r1.out hm)).mono ?_⟩
  rintro e w1 ⟨rfl, hb⟩
  rw [hv]
  have hb2 := Lib.hid (hb1.trans (hb.mono (by simp)))
  clear hb hb1 x0 x1 b0
  gi_wp2
  exact ⟨_, results_none rfl _ _ _, ⟨_, rfl⟩, .inl (hJ.out [] _ _ h0.out (Spare.below hb2.out (Nat.le_refl _)))⟩

theorem Stays.and {β : Type} {m : Nat} {I I' : β → World → Prop} (h : Stays m I) (h' : Stays m I') : Stays m fun s W => I s W ∧ I' s W := fun s A C hi hs => ⟨h s A C hi.1 hs, h' s A C hi.2 hs⟩
theorem stays_si {β : Type} (m B : Nat) (W : Int) (n cap : Nat) (s : Option Addr) (xs : List Int) : Stays m fun (_ : β) V => SI B W n cap s xs V := fun _ _ _ hi hs => hi.free hs
theorem stays_box {β : Type} (m B : Nat) (t : TypeId) (v : Value) : Stays m fun (_ : β) V => Boxed V B t v := fun _ _ _ hi hs => hs.fbox hi
theorem stays_spare {β : Type} {m : Nat} {M : Nat → Obj → Prop} {A : World} (h : A.heap.size ≤ m) : Stays m fun (_ : β) V => Spare M A V := fun _ _ C hi hs =>
  ⟨hs.os.trans hi.os, hs.tape.trans hi.tape, hs.output.trans hi.output, Nat.le_trans hi.size hs.size, fun k o hk hn => hs.same k o (hi.same k o hk hn) fun hf => by have := heap_lt hk; have := hf.1; omega⟩
theorem stays_pure {β : Type} (m : Nat) (p : β → Prop) : Stays m fun s (_ : World) => p s := fun _ _ _ hi _ => hi

set_option maxHeartbeats 4000000 in
theorem switches_deals (B W n cap : Nat) (s : Option Addr) (xs : List Int) (M : Nat → Obj → Prop) (w0 : World) (hS : SI B W n cap s xs w0) (hv : Im W n xs)
    (hK : ∀ A C, Spare M A C → SI B W n cap s xs A → SI B W n cap s xs C) (hM : ∀ k o, w0.heap.size ≤ k → M k o → ∃ cs fr, o = .cells cs 37 fr) :
    Deals Try.prog 107 #[.pointer (some ⟨B, 0, none⟩)] encT (swL (cellOf xs) W n) M w0 := by
  intro l J Jx hJ hJx hY h0
  have hw6 := hv.w6
  have hn6 := hv.l6
  replace hY := Lib.hid hY
  replace hJ := Lib.hid hJ
  replace hJx := Lib.hid hJx
  replace h0 := Lib.hid h0
  replace hK := Lib.hid hK
  replace hM := Lib.hid hM
  have hvv := Lib.hid hv.valid
  replace hv := Lib.hid hv
  have hb1 : Below w0.heap.size w0 (w0.alloc (.cells #[.func (.yield l) #[] #[]] 97)) := (Below.refl _ _).alloc (Nat.le_refl _) _
  have r1 := Lib.hid (hS.row.bel hb1)
  have x0 := hS.c0
  have x1 := hS.c1
  have b0 := block_lt x0
  simp only at b0
  refine callsIn_of_wp_marks Try.func107 rfl trivial ?_ rfl
  simp only [Try.ntmps107, List.size_toArray, List.length_cons, List.length_nil, Nat.reduceAdd, Nat.reduceSub, Array.replicate_succ, Array.replicate_zero, List.push_toArray, List.append_toArray, List.nil_append, List.cons_append]
  gi_wp2
  refine ⟨trivial, (callsIn_wide.2 (valid_impl W s n cap xs _ r1.out (by omega))).mono ?_⟩
  rintro e w1 ⟨rfl, hb⟩
  rw [hvv.out]
  have bY : Boxed w1 w0.heap.size 97 (.func (.yield l) #[] #[]) := (hb.block _ (by simp)).trans (Boxed.new w0 _ _)
  have hb2 := Lib.hid (hb1.trans (hb.mono (by simp)))
  have S1 := hS.bel (hb1.trans (hb.mono (by simp)))
  have x0 := S1.c0
  have x1 := S1.c1
  clear hb hb1
  gi_wp2
  refine ⟨trivial, (callsIn_wide.2 (pairsOf_any (n : Int) w1)).mono ?_⟩
  rintro e w2 ⟨rfl, rfl⟩
  gi_wp2
  have hN : (w1.alloc (.cells #[.int .i64 n] 3)).heap.size = w1.heap.size + 1 := by simp
  have hz := hb2.out.size
  have bN := Boxed.new w1 3 (.int .i64 n)
  have S2 := S1.bel ((Below.refl _ _).alloc (Nat.le_refl _) (.cells #[.int .i64 n] 3))
  have bY2 := bY.alloc (.cells #[.int .i64 n] 3)
  have J2 : J [] (w1.alloc (.cells #[.int .i64 n] 3)) := hJ.out _ _ _ h0.out ((Spare.below hb2.out (Nat.le_refl _)).alloc _)
  obtain ⟨w2, hw2⟩ : ∃ w2, w1.alloc (.cells #[.int .i64 n] 3) = w2 := ⟨_, rfl⟩
  rw [hw2] at hN bN S2 bY2 J2 ⊢
  replace hN := Lib.hid hN
  replace J2 := Lib.hid J2
  clear hw2 x0 x1 S1 bY
  refine range_out (gf := 117) (lb := #[.pointer (some ⟨w1.heap.size, 0, none⟩)]) (M := M) (encs := encP)
    (I := fun pre V => J (allSw (cellOf xs) W pre) V ∧ (SI B W n cap s xs V ∧ Boxed V w0.heap.size 97 (.func (.yield l) #[] #[])))
    (Ix := fun c V => c = .ret ∧ Jx V)
    (Ax := fun pre x a1 V => (J (allSw (cellOf xs) W pre) V ∧ (SI B W n cap s xs V ∧ Boxed V w0.heap.size 97 (.func (.yield l) #[] #[]))) ∧ ∃ b1 b2, (w2.heap.size ≤ b1 ∧ w2.heap.size ≤ b2) ∧ (Boxed V b1 3 (.int .i64 x.1) ∧ Boxed V b2 3 (.int .i64 x.2)) ∧ a1 = {
      tmps :=
        #[.func (.yield l) #[] #[], .pointer (some ⟨B, 0, none⟩), .pointer (some ⟨w0.heap.size, 0, none⟩), .pointer (some ⟨b1, 0, none⟩), .pointer (some ⟨b2, 0, none⟩), undef, undef, undef,
          .agg #[.int .i64 W, .slice s n cap], .bool true, .bool false,
          .pointer (some ⟨B, 1, none⟩), .slice s n cap, .int .i64 n,
          .func (.func 117) #[] #[.pointer (some ⟨w1.heap.size, 0, none⟩)], .int .i64 x.1, .int .i64 x.2, undef,
          undef, undef, undef, undef, undef, undef, undef, undef, undef, undef, undef, undef, undef, undef, undef,
          undef, undef, undef],
      defers := [] })
    rfl (enters_of Try.func117 (by kernel_rfl) rfl) (fun _ => rfl) (pairsL n) ?hM ?hseq ?hI ?hIx ?hAx ?h0 ?assign ?body ?done ?stop
  case hM =>
    intro k o hk hm
    obtain ⟨cs, fr, rfl⟩ := hM.out k o (by have := hN.out; omega) hm
    rfl
  case hseq =>
    intro V hV
    refine pairs_deals w1.heap.size n _ V ((hV.block _ (by have := hN.out; omega)).trans bN) (fun h => ?_) (by omega)
    rcases h with h | h
    · obtain ⟨cs, fr, e⟩ := hM.out _ _ (by omega) h
      simp at e
    · have := hN.out; omega
  case hI => exact Stays.and (fun _ _ _ hi hs => hJ.out _ _ _ hi (hs.mono fun _ _ h => h.mono (by have := hN.out; omega))) (Stays.and (stays_si _ _ _ _ _ _ _) (stays_box _ _ _ _))
  case hIx => exact fun c => Stays.and (stays_pure _ _) (fun _ _ _ hi hs => hJx.out () _ _ hi (hs.mono fun _ _ h => h.mono (by have := hN.out; omega)))
  case hAx =>
    rintro pre x a1 _ A C ⟨hi, b1, b2, hb, ⟨h1, h2⟩, e⟩ hs
    exact ⟨⟨hJ.out _ _ _ hi.1 (hs.mono fun _ _ h => h.mono (by have := hN.out; omega)), hi.2.1.free hs, hs.fbox hi.2.2⟩, b1, b2, hb, ⟨hs.fbox h1, hs.fbox h2⟩, e⟩
  case h0 => exact ⟨J2.out, S2, bY2⟩
  case assign =>
    rintro l1 pre x post V e ⟨hj, hsi, hby⟩ hlt
    replace hj := Lib.hid hj
    replace e := Lib.hid e
    unfold encP
    gi_wp2
    exact ⟨((Spare.refl _ _).alloc _).alloc _, ⟨hJ.out _ _ _ hj.out (((Spare.refl _ _).alloc _).alloc _), (hsi.free (m := 0) (((Spare.refl _ _).alloc _).alloc _)), (hby.alloc _).alloc _⟩, V.heap.size, V.heap.size + 1, ⟨by omega, by omega⟩, ⟨(Boxed.new V _ _).alloc _, by have := Boxed.new (V.alloc (.cells #[.int .i64 x.1] 3)) 3 (.int .i64 x.2); simpa using this⟩, rfl⟩
  case body =>
    rintro l1 pre x post a1 V e hl hr ⟨⟨hj, hsi, hby⟩, b1, b2, hb, ⟨hx1, hx2⟩, rfl⟩
    replace hj := Lib.hid hj
    have hmem := pairs_mem.1 (show (x.1, x.2) ∈ pairsL n by rw [e]; simp)
    replace e := Lib.hid e
    have x0 := hsi.c0
    have hxx := hsi.c1
    have hlV := heap_lt hr.choose_spec
    gi_wp2
    refine ⟨trivial, (CallsIn.inRound l1 (callsIn_wide.2 (pairsOf_any (W : Int) V))).mono ?_⟩
    rintro e' w' ⟨rfl, rfl⟩
    gi_wp2
    have bN' := Boxed.new V 3 (.int .i64 W)
    have S3 := hsi.bel ((Below.refl _ _).alloc (Nat.le_refl _) (.cells #[.int .i64 W] 3))
    have bY3 := hby.alloc (.cells #[.int .i64 W] 3)
    have bX1 := hx1.alloc (.cells #[.int .i64 W] 3)
    have bX2 := hx2.alloc (.cells #[.int .i64 W] 3)
    have J3 : J (allSw (cellOf xs) W pre) (V.alloc (.cells #[.int .i64 W] 3)) := hJ.out _ _ _ hj.out ((Spare.refl _ _).alloc _)
    have sp3 : Spare M V (V.alloc (.cells #[.int .i64 W] 3)) := (Spare.refl _ _).alloc _
    have hr3 : ∃ r, (V.alloc (.cells #[.int .i64 W] 3)).heap[l1]? = some (.loop r) := ⟨_, (Below.heap_alloc _ _ _ hlV).trans hr.choose_spec⟩
    have hN3 : (V.alloc (.cells #[.int .i64 W] 3)).heap.size = V.heap.size + 1 := by simp
    obtain ⟨w3, hw3⟩ : ∃ w3, V.alloc (.cells #[.int .i64 W] 3) = w3 := ⟨_, rfl⟩
    rw [hw3] at bN' S3 bY3 bX1 bX2 J3 sp3 hr3 hN3 ⊢
    replace hN3 := Lib.hid hN3
    replace J3 := Lib.hid J3
    have hN' := hN.out
    have hwV : w2.heap.size ≤ V.heap.size := by omega
    clear hw3 x0 hxx hj hsi hby hN'
    refine range_in (gf := 117) (lb := #[.pointer (some ⟨V.heap.size, 0, none⟩)]) (M := M) (encs := encP)
      (I := fun pre2 U => J (allSw (cellOf xs) W pre ++ rowSw (cellOf xs) x pre2) U ∧ ((SI B W n cap s xs U ∧ Boxed U w0.heap.size 97 (.func (.yield l) #[] #[])) ∧ ((Boxed U b1 3 (.int .i64 x.1) ∧ Boxed U b2 3 (.int .i64 x.2)) ∧ Spare M V U)))
      (Ix := fun c U => c = .ret ∧ (Jx U ∧ Spare M V U))
      (Ax := fun pre2 y a1 U => (J (allSw (cellOf xs) W pre ++ rowSw (cellOf xs) x pre2) U ∧ ((SI B W n cap s xs U ∧ Boxed U w0.heap.size 97 (.func (.yield l) #[] #[])) ∧ ((Boxed U b1 3 (.int .i64 x.1) ∧ Boxed U b2 3 (.int .i64 x.2)) ∧ Spare M V U))) ∧ a1 = {
        tmps :=
          #[.func (.yield l) #[] #[], .pointer (some ⟨B, 0, none⟩), .pointer (some ⟨w0.heap.size, 0, none⟩), .pointer (some ⟨b1, 0, none⟩), .pointer (some ⟨b2, 0, none⟩), .int .i64 y.1, .int .i64 y.2, undef,
            .agg #[.int .i64 W, .slice s n cap], .bool true, .bool false,
            .pointer (some ⟨B, 1, none⟩), .slice s n cap, .int .i64 n,
            .func (.func 117) #[] #[.pointer (some ⟨w1.heap.size, 0, none⟩)], .int .i64 x.1, .int .i64 x.2, .pointer (some ⟨B, 0, none⟩),
            .int .i64 W, .func (.func 117) #[] #[.pointer (some ⟨V.heap.size, 0, none⟩)], .int .i64 y.1, .int .i64 y.2, undef, undef, undef, undef, undef, undef, undef, undef, undef, undef, undef,
            undef, undef, undef],
        defers := [] })
      hr3 rfl (enters_of Try.func117 (by kernel_rfl) rfl) (fun _ => rfl) (pairsL W) ?hM2 ?hseq2 ?hI2 ?hIx2 ?hAx2 ?h02 ?assign2 ?body2 ?done2 ?stop2
    case hM2 =>
      intro k o hk hm
      obtain ⟨cs, fr, rfl⟩ := hM.out k o (by have := hN.out; have := hN3.out; omega) hm
      rfl
    case hseq2 =>
      intro U hU
      refine pairs_deals V.heap.size W _ U ((hU.block _ (by have := hN3.out; omega)).trans bN') (fun h => ?_) (by omega)
      rcases h with h | h
      · obtain ⟨cs, fr, e⟩ := hM.out _ _ (by have := hN.out; omega) h
        simp at e
      · have := hN3.out; omega
    case hI2 => exact Stays.and (fun _ _ _ hi hs => hJ.out _ _ _ hi (hs.mono fun _ _ h => h.mono (by have := hN.out; have := hN3.out; omega))) (Stays.and (Stays.and (stays_si _ _ _ _ _ _ _) (stays_box _ _ _ _)) (Stays.and (Stays.and (stays_box _ _ _ _) (stays_box _ _ _ _)) (stays_spare (by have := hN3.out; omega))))
    case hIx2 => exact fun c => Stays.and (stays_pure _ _) (Stays.and (fun _ _ _ hi hs => hJx.out () _ _ hi (hs.mono fun _ _ h => h.mono (by have := hN.out; have := hN3.out; omega))) (stays_spare (by have := hN3.out; omega)))
    case hAx2 =>
      rintro pre2 y a1 _ A C ⟨hi, e⟩ hs
      exact ⟨⟨hJ.out _ _ _ hi.1 (hs.mono fun _ _ h => h.mono (by have := hN.out; have := hN3.out; omega)), ⟨hi.2.1.1.free hs, hs.fbox hi.2.1.2⟩, ⟨hs.fbox hi.2.2.1.1, hs.fbox hi.2.2.1.2⟩, stays_spare (β := Unit) (by have := hN3.out; omega) () _ _ hi.2.2.2 hs⟩, e⟩
    case h02 => exact ⟨by rw [show rowSw (cellOf xs) x [] = [] from rfl, List.append_nil]; exact J3.out, ⟨S3, bY3⟩, ⟨bX1, bX2⟩, sp3⟩
    case assign2 =>
      rintro l2 pre2 y post2 U e2 hi hlt
      replace hi := Lib.hid hi
      replace e2 := Lib.hid e2
      unfold encP
      gi_wp2
      exact ⟨Spare.refl _ _, hi.out, trivial⟩
    case body2 =>
      rintro l2 pre2 y post2 a1 U e2 hl2 hr2 ⟨⟨hj, ⟨hsi, hby⟩, ⟨hx1, hx2⟩, hsp⟩, rfl⟩
      have hmem2 := pairs_mem.1 (show (y.1, y.2) ∈ pairsL W by rw [e2]; simp)
      have hU := hsp.size
      have n1 := hN.out
      have nb1 : ∀ k (v : Int), w0.heap.size ≤ k → ¬ M k (.cells #[.int .i64 v] 3 (0, 0)) := fun k v hk h => by
        obtain ⟨cs, fr, e⟩ := hM.out _ _ hk h
        simp at e
      have nbY : ¬ M w0.heap.size (.cells #[.func (.yield l) #[] #[]] 97 (0, 0)) := fun h => by
        obtain ⟨cs, fr, e⟩ := hM.out _ _ (Nat.le_refl _) h
        simp at e
      replace nb1 := Lib.hid nb1
      replace nbY := Lib.hid nbY
      replace n1 := Lib.hid n1
      replace hj := Lib.hid hj
      have c1 := hx1.cell
      have c2 := hx2.cell
      have x0 := hsi.c0
      have x1 := hsi.c1
      have c1l := block_lt c1
      have c2l := block_lt c2
      have x0l := block_lt x0
      simp only at c1l c2l x0l
      have hba : Below U.heap.size U (U.alloc (.cells #[.int .i64 x.1, .int .i64 x.2, .int .i64 y.1, .int .i64 y.2] 37)) := (Below.refl _ _).alloc (Nat.le_refl _) _
      have r2 := Lib.hid (hsi.row.bel hba)
      gi_wp2
      refine ⟨trivial, (CallsIn.inRound l2 (callsIn_wide.2 (crosses_any W s n cap xs x.1 x.2 y.1 y.2 _ r2.out hv.out (by omega) (by omega) (by omega) (by omega)))).mono ?_⟩
      rintro e' w5 ⟨rfl, hb⟩
      have hb5 := Lib.hid (hba.trans (hb.mono (by simp)))
      have t0 : w5.cell? ⟨U.heap.size, 0, none⟩ = some (.int .i64 x.1) := kept hb (by simp) (by simp)
      have t1 : w5.cell? ⟨U.heap.size, 1, none⟩ = some (.int .i64 x.2) := kept hb (by simp) (by simp)
      have t2 : w5.cell? ⟨U.heap.size, 2, none⟩ = some (.int .i64 y.1) := kept hb (by simp) (by simp)
      have t3 : w5.cell? ⟨U.heap.size, 3, none⟩ = some (.int .i64 y.2) := kept hb (by simp) (by simp)
      have sp5 : Spare (Free 0) U w5 := Spare.below hb5.out (Nat.le_refl _)
      have hsi5 := hsi.free sp5
      have hby5 := sp5.fbox hby
      have hx15 := sp5.fbox hx1
      have hx25 := sp5.fbox hx2
      have spM : Spare M U w5 := Spare.below hb5.out (Nat.le_refl _)
      have hj5 : Hid (J (allSw (cellOf xs) W pre ++ rowSw (cellOf xs) x pre2) w5) := hJ.out _ _ _ hj.out (Spare.below hb5.out (Nat.le_refl _))
      have hsp5 := hsp.trans spM
      have hsn := Lib.hid (rsw_snoc (cellOf xs) x y pre2)
      clear hb hba hj c1 c2 x0 x1 hsi hby hx1 hx2 r2 hb5 sp5 c1l c2l x0l
      have cY := hby5.cell
      obtain ⟨b, hbq⟩ : ∃ b, swC (cellOf xs) x.1 x.2 y.1 y.2 = b := ⟨_, rfl⟩
      rw [hbq]
      cases b with
      | false =>
        replace hbq := Lib.hid hbq
        gi_wp2
        refine ⟨fun _ h => (by cases h), ?_⟩
        gi_wp2
        exact ⟨spM, by rw [hsn.out, hbq.out, if_neg (by simp), List.append_nil]; exact hj5.out, ⟨hsi5, hby5⟩, ⟨hx15, hx25⟩, hsp5⟩
      | true =>
        have hpp := swl_at e.out e2 hbq
        obtain ⟨fn, tmps, assign, body, hy, hR⟩ := hY.out _ _ _ w5 hpp hj5.out
        replace hbq := Lib.hid hbq
        replace hR := Lib.hid hR
        unfold encT at hy
        dsimp only at hy
        clear hpp
        gi_wp2
        refine RoundIn.mono (show RoundIn (Fence.wide.inRound l2) _ _ _ _ _ _ _ _ _ from round_wide hR.out) ?_
        rintro e' W6 ⟨hs, (⟨rfl, hJ6⟩ | ⟨rfl, hx6⟩)⟩
        · have hsi6 := hK.out _ _ hs hsi5
          have hby6 : Boxed W6 w0.heap.size 97 (.func (.yield l) #[] #[]) := hs.same _ _ hby5 nbY.out
          have hx16 : Boxed W6 b1 3 (.int .i64 x.1) := hs.same _ _ hx15 (nb1.out _ _ (by have := n1.out; omega))
          have hx26 : Boxed W6 b2 3 (.int .i64 x.2) := hs.same _ _ hx25 (nb1.out _ _ (by have := n1.out; omega))
          replace hJ6 : Hid (J (allSw (cellOf xs) W pre ++ rowSw (cellOf xs) x (pre2 ++ [y])) W6) := by
            rw [hsn.out, hbq.out, if_pos rfl, ← List.append_assoc]; exact hJ6
          have spN := spM.trans hs
          have hspN := hsp5.trans hs
          clear hs hR hy cY
          gi_wp2
          exact ⟨spN, hJ6.out, ⟨hsi6, hby6⟩, ⟨hx16, hx26⟩, hspN⟩
        · have spN := spM.trans hs
          have hspN := hsp5.trans hs
          replace hx6 := Lib.hid hx6
          clear hs hR hy cY
          gi_wp2
          exact ⟨spN, rfl, hx6.out, hspN⟩
    case done2 =>
      rintro U ⟨hj, ⟨hsi, hby⟩, hbx, hsp⟩
      replace hj := Lib.hid hj
      gi_wp2
      exact ⟨hsp, by rw [asw_snoc]; exact hj.out, hsi, hby⟩
    case stop2 =>
      rintro c U ⟨rfl, hjx, hsp⟩
      replace hjx := Lib.hid hjx
      gi_wp2
      exact ⟨hsp, rfl, hjx.out⟩
  case done =>
    rintro D V hD ⟨hj, hsi, hby⟩ hdf
    replace hj := Lib.hid hj
    gi_wp2
    refine ⟨by simp, .inl ⟨_, _, rfl, run_takeDeferred hdf, ?_⟩⟩
    exact ⟨_, results_none rfl _ _ _, ⟨_, rfl⟩, .inl (hJ.out _ _ _ hj.out ((Spare.refl _ _).put _ hdf (.inr ⟨by have := hN.out; omega, rfl⟩)))⟩
  case stop =>
    rintro D c V hD ⟨rfl, hjx⟩ hdf
    replace hjx := Lib.hid hjx
    gi_wp2
    refine ⟨by simp, .inl ⟨_, _, rfl, run_takeDeferred hdf, ?_⟩⟩
    exact ⟨_, results_none rfl _ _ _, ⟨_, rfl⟩, .inr (hJx.out () _ _ hjx.out ((Spare.refl _ _).put _ hdf (.inr ⟨by have := hN.out; omega, rfl⟩)))⟩
end Go.Proofs.Yteejopkimlkhoaa

