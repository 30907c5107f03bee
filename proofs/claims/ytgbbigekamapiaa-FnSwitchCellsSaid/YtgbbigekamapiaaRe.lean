/-
  The contract of the program's function that counts the switches of an image.
-/
import Derived.Test.YtgbbigekamapiaaRd
namespace Go.Proofs.Ytgbbigekamapiaa
set_option maxRecDepth 100000
open Go.RowKit
attribute [local go_sem] Oper.semAt_some

/-- How many switches an image has, or -1. -/
def manyS (W : Int) (xs : List Int) : Int := if validB W xs = true then manyC (cellOf xs) W.toNat xs.length else -1

theorem SI.spare {M : Nat → Obj → Prop} {B : Nat} {W : Int} {n cap : Nat} {s : Option Addr} {xs : List Int} {A C : World} (h : SI B W n cap s xs A) (hs : Spare M A C) (hB : ∀ o, ¬ M B o) (hr : ∀ b off, s = some ⟨b, off, none⟩ → 0 < n → ∀ o, ¬ M b o) : SI B W n cap s xs C := by
  refine ⟨hs.cell h.c0 fun o _ _ => hB o, hs.cell h.c1 fun o _ _ => hB o, h.row.1, ?_⟩
  rcases h.row.2 with h0 | ⟨b, off, e, hc⟩
  · exact .inl h0
  · exact .inr ⟨b, off, e, fun i hi => hs.cell (hc i hi) fun o _ _ => hr b off e (by omega) o⟩
theorem row_lt' {w : World} {s : Option Addr} {n : Nat} {xs : List Int} (h : Row w s n xs) : ∀ b off, s = some ⟨b, off, none⟩ → 0 < n → b < w.heap.size := by
  intro b off e hn
  rcases h.2 with h0 | ⟨b', off', e', hc⟩
  · omega
  · rw [e] at e'; cases e'; exact block_lt (hc 0 hn)

theorem stays_below {β : Type} {m B : Nat} {w : World} (hB : B ≤ m) (hw : B ≤ w.heap.size) : Stays m fun (_ : β) V => Below B w V := fun _ V C hi hs =>
  ⟨hs.os.trans hi.os, hs.tape.trans hi.tape, hs.output.trans hi.output, Nat.le_trans hi.size hs.size, fun k hk => by
    have hV := hi.size
    have e : V.heap[k]? = some (V.heap[k]'(by omega)) := Array.getElem?_eq_getElem (by omega)
    rw [hs.same k _ e (fun hf => by have := hf.1; omega), ← e]
    exact hi.block k hk⟩
theorem many_135 : ∀ n, n < 7 → ∀ W, W < 7 → n * (n - 1) / 2 * (W * W / 4) ≤ 135 := by decide +kernel
theorem swl_135 (c : Nat → Nat → Bool) {W n : Nat} (hW : W < 7) (hn : n < 7) : (swL c W n).length ≤ 135 := by
  have h1 := swl_len c W n
  have h2 := many_le c hW hn
  have h3 := many_135 n hn W hW
  omega

set_option maxHeartbeats 2000000 in
theorem manysw_impl (W : Int) (a : Option Addr) (n cap : Nat) (xs : List Int) (w : World) (h : Row w a n xs) (hm : n ≤ 9223372036854775807) :
    Calls Try.prog 40 #[.agg #[.int .i64 W, .slice a n cap]] w fun e w' => e = .returned (.int .i64 (manyS W xs)) ∧ Below w.heap.size w w' := by
  have hl := h.1
  have H := h.alloc (.cells #[.int .i64 W, .slice a n cap] 25)
  by_cases hv : validB W xs = true
  case neg =>
    rw [show manyS W xs = -1 from if_neg hv]
    have hv : validB W xs = false := by simpa using hv
    refine (callsIn_wide (n := 3)).1 ?_
    refine callsIn_of_wp_marks Try.func40 rfl trivial ?_ rfl
    simp only [Try.ntmps40, List.size_toArray, List.length_cons, List.length_nil, Nat.reduceAdd, Nat.reduceSub, Array.replicate_succ, Array.replicate_zero, List.push_toArray, List.append_toArray, List.nil_append, List.cons_append]
    gi_wp2
    refine ⟨trivial, (callsIn_wide.2 (valid_impl W a n cap xs _ H hm)).mono ?_⟩
    rintro e w1 ⟨rfl, hb⟩
    rw [hv]
    have hb2 := Lib.hid (((Below.refl _ _).alloc (Nat.le_refl _) _).trans (hb.mono (by simp)))
    clear hb H h
    gi_wp2
    exact ⟨_, results_tmp rfl _ _ _, rfl, hb2.out⟩
  have hI0 := validB_W hv
  obtain ⟨W, rfl⟩ := Int.eq_ofNat_of_zero_le (by omega : 0 ≤ W)
  rw [show manyS W xs = manyC (cellOf xs) W n by rw [← hl]; exact (if_pos hv).trans (by rw [Int.toNat_natCast])]
  have hI : Im W n xs := Im.of hv hl
  have hlen := swl_len (cellOf xs) W n
  have hbd := Lib.hid (swl_135 (cellOf xs) (W := W) (n := n) (by have := hI.w6; omega) (by have := hI.l6; omega))
  have hrl := Lib.hid (row_lt' h)
  replace hlen := Lib.hid hlen
  replace hI := Lib.hid hI
  refine (callsIn_wide (n := 3)).1 ?_
  refine callsIn_of_wp_marks Try.func40 rfl trivial ?_ rfl
  simp only [Try.ntmps40, List.size_toArray, List.length_cons, List.length_nil, Nat.reduceAdd, Nat.reduceSub, Array.replicate_succ, Array.replicate_zero, List.push_toArray, List.append_toArray, List.nil_append, List.cons_append]
  gi_wp2
  refine ⟨trivial, (callsIn_wide.2 (valid_impl W a n cap xs _ H hm)).mono ?_⟩
  rintro e w1 ⟨rfl, hb⟩
  rw [hv]
  have hb2 := Lib.hid (((Below.refl _ _).alloc (Nat.le_refl _) _).trans (hb.mono (by simp)))
  have x0 : w1.cell? ⟨w.heap.size, 0, none⟩ = some (.int .i64 W) := kept hb (by simp) (by simp)
  have x1 : w1.cell? ⟨w.heap.size, 1, none⟩ = some (.slice a n cap) := kept hb (by simp) (by simp)
  have r1 := Lib.hid (H.bel hb)
  have l1 := block_lt x0
  simp only at l1
  clear hb H h
  gi_wp2
  refine ⟨trivial, (callsIn_wide.2 (switchesOf_any (W : Int) a n cap _)).mono ?_⟩
  rintro e w' ⟨rfl, rfl⟩
  gi_wp2
  have bM := (Boxed.new w1 3 (.int .i64 0)).alloc (.cells #[.int .i64 W, .slice a n cap] 25)
  have hbb : Below w1.heap.size w1 ((w1.alloc (.cells #[.int .i64 0] 3)).alloc (.cells #[.int .i64 W, .slice a n cap] 25)) := ((Below.refl _ _).alloc (Nat.le_refl _) _).alloc (by simp) _
  have S2 : SI (w1.heap.size + 1) W n cap a xs ((w1.alloc (.cells #[.int .i64 0] 3)).alloc (.cells #[.int .i64 W, .slice a n cap] 25)) := ⟨by go_simp, by go_simp, r1.out.bel hbb⟩
  have hN : ((w1.alloc (.cells #[.int .i64 0] 3)).alloc (.cells #[.int .i64 W, .slice a n cap] 25)).heap.size = w1.heap.size + 2 := by simp
  have hb3 := Lib.hid (hb2.out.trans (hbb.mono hb2.out.size))
  have hz := hb2.out.size
  obtain ⟨w2, hw2⟩ : ∃ w2, (w1.alloc (.cells #[.int .i64 0] 3)).alloc (.cells #[.int .i64 W, .slice a n cap] 25) = w2 := ⟨_, rfl⟩
  rw [hw2] at bM hbb S2 hN hb3 ⊢
  replace hN := Lib.hid hN
  clear hw2 hbb x0 x1 r1 hb2
  refine range_out (gf := 93) (lb := #[.pointer (some ⟨w1.heap.size + 1, 0, none⟩)]) (M := fun k _ => k = w1.heap.size) (encs := encT)
    (I := fun pre V => Boxed V w1.heap.size 3 (.int .i64 (pre.length : Nat)) ∧ Below w.heap.size w V)
    (Ix := fun _ _ => False)
    (Ax := fun pre x a1 V => (Boxed V w1.heap.size 3 (.int .i64 (pre.length : Nat)) ∧ Below w.heap.size w V) ∧ a1 = {
      tmps :=
        #[.agg #[.int .i64 W, .slice a n cap], .pointer (some ⟨w.heap.size, 0, none⟩), .int .i64 0, .pointer (some ⟨w1.heap.size, 0, none⟩),
          .agg #[.int .i64 W, .slice a n cap], .bool true, .bool false, .agg #[.int .i64 W, .slice a n cap],
          .func (.func 93) #[] #[.pointer (some ⟨w1.heap.size + 1, 0, none⟩)],
          .agg #[.int .i64 x.1, .int .i64 x.2.1, .int .i64 x.2.2.1, .int .i64 x.2.2.2], undef, undef, undef],
      defers := [] })
    rfl (enters_of Try.func93 (by kernel_rfl) rfl) (fun _ => rfl) (swL (cellOf xs) W n) ?hM ?hseq ?hI ?hIx ?hAx ?h0 ?assign ?body ?done ?stop
  case hM =>
    intro k o hk hm
    have := hN.out
    omega
  case hseq =>
    intro V hV
    have hn1 := hN.out
    have hVs := hV.size
    refine switches_deals (w1.heap.size + 1) W n cap a xs _ V (S2.bel hV) hI.out (fun A C hs h => h.spare hs (fun o hm => ?_) (fun b off e hn o hm => ?_)) (fun k o hk hm => ?_)
    · rcases hm with h | h <;> omega
    · have := hrl.out b off e hn
      rcases hm with h | h <;> omega
    · rcases hm with h | h <;> omega
  case hI => exact Stays.and (fun _ _ _ hi hs => hs.fbox hi) (stays_below (by have := hN.out; omega) (Nat.le_refl _))
  case hIx => exact fun _ _ _ _ hi _ => hi
  case hAx =>
    rintro pre x a1 _ A C ⟨hi, e⟩ hs
    exact ⟨⟨hs.fbox hi.1, stays_below (β := Unit) (by have := hN.out; omega) (Nat.le_refl _) () _ _ hi.2 hs⟩, e⟩
  case h0 => exact ⟨bM, hb3.out⟩
  case assign =>
    rintro l1 pre x post V e hi hlt
    replace hi := Lib.hid hi
    replace e := Lib.hid e
    unfold encT
    gi_wp2
    exact ⟨Spare.refl _ _, hi.out, by simp⟩
  case body =>
    rintro l1 pre x post a1 V e hl hr ⟨⟨hbx, hbel⟩, rfl⟩
    have hpl : pre.length ≤ 135 := by have := hbd.out; rw [e] at this; simp at this; omega
    replace e := Lib.hid e
    have c1 := hbx.cell
    have f1 := hbx.frozen
    replace hbel := Lib.hid hbel
    gi_wp2
    exact ⟨(Spare.refl _ _).set _ (.inr fun o _ => rfl), by rw [List.length_append]; exact hbx.set _, hbel.out.setCell (show w.heap.size ≤ (⟨w1.heap.size, 0, none⟩ : Addr).block from hz) _⟩
  case done =>
    rintro D V hD ⟨hbx, hbel⟩ hdf
    have c1 := hbx.cell
    replace hbel := Lib.hid hbel
    gi_wp2
    refine ⟨by simp, .inl ⟨_, _, rfl, run_takeDeferred hdf, ?_⟩⟩
    exact ⟨_, results_tmp rfl _ _ _, by rw [← hlen.out]; rfl, stays_below (β := Unit) (m := w.heap.size) (Nat.le_refl _) (Nat.le_refl _) () _ _ hbel.out ((Spare.refl _ _).put _ hdf (.inr ⟨by have := hN.out; omega, rfl⟩))⟩
  case stop =>
    rintro D c V hD h hdf
    exact h.elim
end Go.Proofs.Ytgbbigekamapiaa

