/-
  Loops over functions: what a round and the function that gives its elements promise each other, and the law of the statement, in a round of another loop or not.
  The contracts of the program's small functions of chapter 11: the row of two columns, whether two rows cross there, and whether an image has a switch.
  The contract of the iterator over pairs of numbers: it gives all of them, in their order.
  The contract of the iterator over the switches of an image: it gives all of them, in their order.
  The contract of the program's function that counts the switches of an image.
  The contracts of the functions that tell whether an image has a switch, of the program and the model.
  The contract of the program's function that does a switch.
  The contracts of the program's function that lists the switches of an image, down to the library's function that collects them.
  The contract of the program's function that does the first switch of an image.
-/
import Derived.Test.YtemmfnlnhekclaaA
import Derived.RangeFuncNested
import Derived.RangeFuncLeaves
import Derived.RangeFuncBound
import Derived.RangeFuncCalls
import Derived.Shelf.Abstract
import Derived.Shelf.RegionOpen
import Derived.OwnWalkIn
import Derived.TacticsInMore
import Derived.LoopNIn
import Derived.LoopIn
import Derived.Test.YtemmfnlnhekclaaEa
import Derived.Test.YtemmfnlnhekclaaK
import Derived.Test.YtemmfnlnhekclaaKa
import Derived.Test.YtemmfnlnhekclaaHc
import Derived.Deep.RegionHeld3
import Derived.Deep.DeepCutAuto
import Derived.Maps.AppendAt

namespace Go.Proofs.Ytemmfnlnhekclaa
set_option maxRecDepth 100000
open Go.RowKit

/-- Only blocks that M names have turned; new ones may be there. -/
structure Spare (M : Nat → Obj → Prop) (A B : World) : Prop where
  os : B.os = A.os
  tape : B.tape = A.tape
  output : B.output = A.output
  size : A.heap.size ≤ B.heap.size
  same : ∀ k o, A.heap[k]? = some o → ¬ M k o → B.heap[k]? = some o

variable {M M' : Nat → Obj → Prop} {A B C : World}
theorem Spare.refl (M : Nat → Obj → Prop) (A : World) : Spare M A A := ⟨rfl, rfl, rfl, Nat.le_refl _, fun _ _ h _ => h⟩
theorem Spare.trans (h : Spare M A B) (k : Spare M B C) : Spare M A C :=
  ⟨k.os.trans h.os, k.tape.trans h.tape, k.output.trans h.output, Nat.le_trans h.size k.size, fun i o hi hn => k.same i o (h.same i o hi hn) hn⟩
theorem Spare.mono (h : Spare M A B) (hm : ∀ k o, M k o → M' k o) : Spare M' A B :=
  ⟨h.os, h.tape, h.output, h.size, fun i o hi hn => h.same i o hi fun e => hn (hm _ _ e)⟩
theorem heap_lt {A : World} {k : Nat} {o : Obj} (h : A.heap[k]? = some o) : k < A.heap.size := (Array.getElem?_eq_some_iff.1 h).1
theorem Spare.below {n : Nat} (h : Below n A B) (hn : A.heap.size ≤ n) : Spare M A B :=
  ⟨h.os, h.tape, h.output, h.size, fun i _ hi _ => (h.block i (Nat.lt_of_lt_of_le (heap_lt hi) hn)).trans hi⟩
theorem Spare.alloc (h : Spare M A B) (o : Obj) : Spare M A (B.alloc o) := h.trans (Spare.below ((Below.refl _ _).alloc (Nat.le_refl _) o) (Nat.le_refl _))
theorem Spare.drew (h : Spare M A B) : Spare M A B.drew := ⟨h.os, h.tape, h.output, h.size, h.same⟩
theorem Spare.put (h : Spare M A B) {l : Nat} {o : Obj} (o' : Obj) (hl : B.heap[l]? = some o) (hm : A.heap.size ≤ l ∨ M l o) : Spare M A (B.putObj l o') :=
  ⟨h.os, h.tape, h.output, by simpa using h.size, fun i oi hi hn => by
    have e := h.same i oi hi hn
    by_cases q : i = l
    · subst q
      rcases hm with hm | hm
      · have := heap_lt hi; omega
      · rw [hl] at e; cases e; exact absurd hm hn
    · exact (World.putObj_heap_other q).trans e⟩
theorem Spare.set (h : Spare M A B) {p : Addr} (v : Value) (hm : A.heap.size ≤ p.block ∨ ∀ o, B.heap[p.block]? = some o → M p.block o) : Spare M A (B.setCell p v) :=
  ⟨h.os, h.tape, h.output, by have := h.size; simpa [World.setCell] using this, fun i oi hi hn => by
    have e := h.same i oi hi hn
    by_cases q : i = p.block
    · subst q
      rcases hm with hm | hm
      · have := heap_lt hi; omega
      · exact absurd (hm _ e) hn
    · exact (Below.heap_setCell _ _ _ _ q).trans e⟩
theorem Spare.grown {row : Option Nat} (h : Spare M A B) (hg : B.grownBy C row) (hm : ∀ k o, row = some k → B.heap[k]? = some o → A.heap.size ≤ k ∨ M k o) : Spare M A C :=
  ⟨hg.os.trans h.os, hg.tape.trans h.tape, hg.output.trans h.output, Nat.le_trans h.size hg.size, fun i oi hi hn => by
    have e := h.same i oi hi hn
    refine (hg.block i (heap_lt e) fun q => ?_).trans e
    rcases hm i oi q.symm e with hm | hm
    · have := heap_lt hi; omega
    · exact absurd hm hn⟩
theorem Spare.cell (h : Spare M A B) {p : Addr} {v : Value} (hc : A.cell? p = some v) (hn : ∀ o, A.heap[p.block]? = some o → o.isCells = true → ¬ M p.block o) : B.cell? p = some v := by
  obtain ⟨o, ho, hi⟩ := cells_of_cell hc
  exact (World.cell?_of_block ((h.same _ _ ho (hn o ho hi)).trans ho.symm)).trans hc

/-- What a function that gives elements may turn by itself: blocks of its own that hold no cells. -/
def Free (n : Nat) (k : Nat) (o : Obj) : Prop := n ≤ k ∧ o.isCells = false
theorem Free.mono {n m k : Nat} {o : Obj} (h : Free m k o) (hn : n ≤ m) : Free n k o := ⟨Nat.le_trans hn h.1, h.2⟩
theorem Spare.fcell {n : Nat} (h : Spare (Free n) A B) {p : Addr} {v : Value} (hc : A.cell? p = some v) : B.cell? p = some v :=
  h.cell hc fun _ _ hi hf => by have := hf.2; rw [hi] at this; cases this
theorem Spare.ffrozen {n : Nat} (h : Spare (Free n) A B) {p : Addr} {v : Value} (hc : A.cell? p = some v) : B.frozen? p = A.frozen? p := by
  obtain ⟨o, ho, hi⟩ := cells_of_cell hc
  exact World.frozen?_of_block ((h.same _ _ ho fun hf => by have := hf.2; rw [hi] at this; cases this).trans ho.symm)
theorem Spare.fbox {n b : Nat} {t : TypeId} {v : Value} (h : Spare (Free n) A B) (hc : Boxed A b t v) : Boxed B b t v := h.same _ _ hc fun hf => by cases hf.2
theorem Spare.frow {n : Nat} (h : Spare (Free n) A B) {base : Nat} {e : TypeId} {size : Nat} {v : Value} {m : Nat} {xs : List Value} (hr : A.ownsRow base e size v m xs) : B.ownsRow base e size v m xs := by
  refine ⟨hr.1, hr.2.imp id ?_⟩
  rintro ⟨g, cap, cur, e1, e2, e3, r⟩
  exact ⟨g, cap, cur, e1, e2, h.same _ _ e3 (fun hf => by cases hf.2), r⟩
/-- It does not mind the steps of the function that gives elements. -/
def Stays {β : Type} (n : Nat) (I : β → World → Prop) : Prop := ∀ s A B, I s A → Spare (Free n) A B → I s B
theorem Stays.mono {β : Type} {n m : Nat} {I : β → World → Prop} (h : Stays n I) (hn : n ≤ m) : Stays m I := fun s A B hi hs => h s A B hi (hs.mono fun _ _ hf => hf.mono hn)

/-- How the body of a round may be left. -/
def rpost {α : Type} (M : Nat → Obj → Prop) (I : List α → World → Prop) (Ix : Code → World → Prop) (xs : List α) (W : World) : Exit → Act → World → Prop
  | .normal, _, W' => Spare M W W' ∧ I xs W'
  | .ret, _, W' => Spare M W W' ∧ Ix .ret W'
  | .exit id, _, W' => Spare M W W' ∧ Ix (.exit id) W'
  | .goto t, _, W' => Spare M W W' ∧ Ix (.goto t) W'
  | .panic _, _, _ => False
  | .outgrown, _, _ => False

/-- The function gives the elements of xs in their order to rounds that turn what M names alone. -/
def Deals {α : Type} (P : Program) (g : Nat) (lb : Array Value) (encs : α → Array Value) (xs : List α) (M : Nat → Obj → Prop) (W : World) : Prop :=
  ∀ (l : Nat) (J : List α → World → Prop) (Jx : World → Prop), Stays W.heap.size J → Stays W.heap.size (fun (_ : Unit) => Jx) →
    (∀ pre x post W1, xs = pre ++ x :: post → J pre W1 → YieldAt Fence.wide 3 P l (encs x) W1 fun e W' => Spare M W1 W' ∧ ((e = .returned (.bool true) ∧ J (pre ++ [x]) W') ∨ (e = .returned (.bool false) ∧ Jx W'))) →
    J [] W →
    CallsIn Fence.wide 3 P g (#[.func (.yield l) #[] #[]] ++ lb) W fun e W' => (∃ v, e = .returned v) ∧ (J xs W' ∨ Jx W')

theorem calls_wide {n m : Nat} {P : Program} {f : FuncId} {args : Array Value} {w : World} {R : Ending → World → Prop} (h : CallsIn Fence.wide n P f args w R) : CallsIn Fence.wide m P f args w R :=
  callsIn_wide.2 (callsIn_wide.1 h)
theorem round_wide {n m : Nat} {P : Program} {l : Nat} {f : FuncId} {tmps : Array Value} {assign body : Code} {w : World} {R : Ending → World → Prop} (h : RoundIn Fence.wide n P l f tmps assign body w R) : RoundIn Fence.wide m P l f tmps assign body w R :=
  ⟨h.1, fun c cs _ => h.2 c cs (room_wide _)⟩


variable {α : Type} {P : Program} {ps : Array Tmp} {assign body : Code}

/-- One round, from the loop's record to the record. -/
theorem round_one {l n0 D : Nat} {rec : LoopState → Option Code → Loop} {fn : FuncId} {tmps : Array Value}
    (hrec : rec = fun st pe => { state := st, pending := pe, fn, tmps := tmps, params := ps, assign, body, defers := D })
    (hM : ∀ o, M l o → o.isCells = true) (hl0 : n0 ≤ l) {I : List α → World → Prop} {Ix : Code → World → Prop} (hI : Stays n0 I) (hIx : ∀ c, Stays n0 (fun (_ : Unit) => Ix c))
    {pre : List α} {x : α} {args : Array Value} (hps : args.size = ps.size) {Ax : Act → World → Prop} (hAx : ∀ a1, Stays n0 (fun (_ : Unit) => Ax a1)) {W : World}
    (hl : W.heap[l]? = some (.loop (rec .ready none)))
    (hassign : assign.wpIn (Fence.wide.inRound l) 3 P (Exit.then (fun a1 W1 => Spare M W W1 ∧ Ax a1 W1) (fun _ _ _ => False)) { tmps := (ps.zip args).foldl (fun t (p, v) => t.setIfInBounds p v) tmps, defers := [] } W)
    (hbody : ∀ a1 W1, (∃ r, W1.heap[l]? = some (.loop r)) → Ax a1 W1 → body.wpIn (Fence.wide.inRound l) 3 P (rpost M I Ix (pre ++ [x]) W1) a1 W1) :
    YieldAt Fence.wide 3 P l args W fun e W' => Spare (fun k o => M k o ∨ k = l) W W' ∧
      ((e = .returned (.bool true) ∧ I (pre ++ [x]) W' ∧ W'.heap[l]? = some (.loop (rec .ready none))) ∨ (e = .returned (.bool false) ∧ ∃ c, Ix c W' ∧ W'.heap[l]? = some (.loop (rec .done (some c))))) := by
  have hn : ∀ r, ¬ M l (.loop r) := fun r h => by have := hM _ h; cases this
  have hy := run_yield (P := P) (args := args) hl (by rw [hrec]; exact hps)
  rw [hrec] at hy
  refine ⟨fn, _, assign, body, hy, roundIn_of_wpIn trivial (wpIn_mono hassign ?_)⟩
  rintro e a1 W1 hp
  cases e with
  | normal =>
    obtain ⟨hs1, hx1⟩ := hp
    have hl1 := hs1.same _ _ hl (hn _)
    refine ⟨_, run_beginRound hl1 (by rw [hrec]), ?_⟩
    have hs2 : Spare (fun k o => M k o ∨ k = l) W (W1.putObj l (.loop { rec .ready none with state := .busy })) := (hs1.mono fun _ _ h => .inl h).put _ hl1 (.inr (.inr rfl))
    have hx2 := hAx a1 () W1 _ hx1 ((Spare.refl _ _).put (.loop { rec .ready none with state := .busy }) hl1 (.inr ⟨hl0, rfl⟩))
    have hl2 : (W1.putObj l (.loop { rec .ready none with state := .busy })).heap[l]? = some (.loop { rec .ready none with state := .busy }) := World.putObj_heap_same (heap_lt hl1)
    generalize W1.putObj l (.loop { rec .ready none with state := .busy }) = W2 at hs2 hx2 hl2
    refine wpIn_mono (hbody a1 W2 ⟨_, hl2⟩ hx2) ?_
    have fin : ∀ (jump : Option Code) (W3 : World), Spare M W2 W3 → ∃ W4, (Instr.endRound l jump).run P W3 = .ok (.bool jump.isNone) W4 ∧ W4.heap[l]? = some (.loop (rec (if jump.isNone then .ready else .done) jump)) ∧
        Spare (fun k o => M k o ∨ k = l) W W4 ∧ Spare (Free n0) W3 W4 := fun jump W3 h3 => by
      have hl3 := h3.same _ _ hl2 (hn _)
      refine ⟨W3.putObj l (.loop (rec (if jump.isNone then .ready else .done) jump)), ?_, World.putObj_heap_same (heap_lt hl3), (hs2.trans (h3.mono fun _ _ h => .inl h)).put _ hl3 (.inr (.inr rfl)), (Spare.refl _ _).put _ hl3 (.inr ⟨hl0, rfl⟩)⟩
      have := run_endRound (P := P) jump hl3
      rw [hrec] at this ⊢
      exact this
    rintro e a3 W3 hp
    cases e with
    | normal =>
      obtain ⟨h3, hi⟩ := hp
      obtain ⟨W4, hr, hl4, hs4, hf4⟩ := fin none W3 h3
      exact ⟨_, _, hr, hs4, .inl ⟨rfl, hI _ _ _ hi hf4, hl4⟩⟩
    | ret =>
      obtain ⟨h3, hi⟩ := hp
      obtain ⟨W4, hr, hl4, hs4, hf4⟩ := fin (some .ret) W3 h3
      exact ⟨_, _, hr, hs4, .inr ⟨rfl, _, hIx _ () _ _ hi hf4, hl4⟩⟩
    | exit id =>
      obtain ⟨h3, hi⟩ := hp
      obtain ⟨W4, hr, hl4, hs4, hf4⟩ := fin (some (.exit id)) W3 h3
      exact ⟨_, _, hr, hs4, .inr ⟨rfl, _, hIx _ () _ _ hi hf4, hl4⟩⟩
    | goto t =>
      obtain ⟨h3, hi⟩ := hp
      obtain ⟨W4, hr, hl4, hs4, hf4⟩ := fin (some (.goto t)) W3 h3
      exact ⟨_, _, hr, hs4, .inr ⟨rfl, _, hIx _ () _ _ hi hf4, hl4⟩⟩
    | panic ch => exact hp.elim
    | outgrown => exact hp.elim
  | ret => exact hp.elim
  | exit id => exact hp.elim
  | goto t => exact hp.elim
  | panic ch => exact hp.elim
  | outgrown => exact hp.elim

variable {g : Operand} {Q : Exit → Act → World → Prop} {a : Act} {w : World} {n gf : Nat} {lb : Array Value} {encs : α → Array Value} {I : List α → World → Prop} {Ix : Code → World → Prop} {Ax : List α → α → Act → World → Prop}

/-- The statement, outside of any round. -/
theorem range_out (hg : a.eval g = .func (.func gf) #[] lb) (eg : ∀ args w, (callFunc gf args).run P w = .ok (.enter gf args) w) (hps : ∀ x, (encs x).size = ps.size)
    (xs : List α) (hM : ∀ k o, w.heap.size ≤ k → M k o → o.isCells = true) (hseq : ∀ W, Below w.heap.size w W → Deals P gf lb encs xs (fun k o => M k o ∨ (w.heap.size ≤ k ∧ k < W.heap.size)) W)
    (hI : Stays w.heap.size I) (hIx : ∀ c, Stays w.heap.size (fun (_ : Unit) => Ix c)) (hAx : ∀ pre x a1, Stays w.heap.size (fun (_ : Unit) => Ax pre x a1)) (h0 : I [] w)
    (hassign : ∀ l pre x post W, xs = pre ++ x :: post → I pre W → w.heap.size < W.heap.size →
      assign.wpIn (Fence.wide.inRound l) 3 P (Exit.then (fun a1 W1 => Spare M W W1 ∧ Ax pre x a1 W1) (fun _ _ _ => False)) { tmps := (ps.zip (encs x)).foldl (fun t (p, v) => t.setIfInBounds p v) a.tmps, defers := [] } W)
    (hbody : ∀ l pre x post a1 W, xs = pre ++ x :: post → w.heap.size ≤ l → (∃ r, W.heap[l]? = some (.loop r)) → Ax pre x a1 W → body.wpIn (Fence.wide.inRound l) 3 P (rpost M I Ix (pre ++ [x]) W) a1 W)
    (hdone : ∀ D W, w.heap.size ≤ D → I xs W → W.heap[D]? = some (.deferred (some [])) → Q .normal { a with defers := { target := .collected D, args := #[] } :: a.defers } W)
    (hstop : ∀ D c W, w.heap.size ≤ D → Ix c W → W.heap[D]? = some (.deferred (some [])) → c.wpIn Fence.wide n P Q { a with defers := { target := .collected D, args := #[] } :: a.defers } W) :
    (Code.rangeFunc g ps assign body).wpIn Fence.wide n P Q a w := by
  refine wpIn_rangeFunc fun fn _ => ?_
  obtain ⟨rec, hrec⟩ : ∃ rec : LoopState → Option Code → Loop, rec = fun st pe => { state := st, pending := pe, fn, tmps := a.tmps, params := ps, assign, body, defers := w.heap.size } := ⟨_, rfl⟩
  obtain ⟨W1, hW1⟩ : ∃ W1, (w.alloc (.deferred (some []))).alloc (.loop (rec .ready none)) = W1 := ⟨_, rfl⟩
  have hz1 : W1.heap.size = w.heap.size + 2 := by rw [← hW1]; simp
  have hL1 : W1.heap[w.heap.size + 1]? = some (.loop (rec .ready none)) := by
    rw [← hW1]; have := World.alloc_heap_new (w.alloc (.deferred (some []))) (.loop (rec .ready none)); rwa [World.size_alloc] at this
  have hK1 : W1.heap[w.heap.size]? = some (.deferred (some [])) := by
    rw [← hW1]; exact (Below.heap_alloc _ _ _ (by simp)).trans (World.alloc_heap_new w _)
  have hb1 : Below w.heap.size w W1 := by rw [← hW1]; exact ((Below.refl _ w).alloc (Nat.le_refl _) _).alloc (by simp) _
  have hI1 : I [] W1 := hI _ _ _ h0 (Spare.below hb1 (Nat.le_refl _))
  refine ⟨w.heap.size + 1, [{ target := .collected w.heap.size, args := #[] }], W1, { target := .fn (.func gf) lb, args := #[.func (.yield (w.heap.size + 1)) #[] #[]] }, W1, gf,
    #[.func (.yield (w.heap.size + 1)) #[] #[]] ++ lb, W1, ?_, ?_, fun _ _ => trivial, ?_, fun h => by simp [Fence.wide] at h, ?_⟩
  · rw [← hW1, hrec]; exact run_enterLoop_outer _ _ _ _ _
  · simp only [resolve, hg]
    simp [go_sem]
  · simp [invoke, go_sem, eg]
  refine calls_wide ((hseq W1 hb1 (w.heap.size + 1)
    (fun pre W => I pre W ∧ W.heap[w.heap.size + 1]? = some (.loop (rec .ready none)) ∧ W.heap[w.heap.size]? = some (.deferred (some [])))
    (fun W => ∃ c, Ix c W ∧ W.heap[w.heap.size + 1]? = some (.loop (rec .done (some c))) ∧ W.heap[w.heap.size]? = some (.deferred (some [])))
    ?_ ?_ ?_ ⟨hI1, hL1, hK1⟩).mono ?_)
  · rintro pre A B ⟨hi, hl, hk⟩ hs
    exact ⟨hI _ _ _ hi (hs.mono fun _ _ h => h.mono (by omega)), hs.same _ _ hl (fun h => by have := h.1; omega), hs.same _ _ hk (fun h => by have := h.1; omega)⟩
  · rintro _ A B ⟨c, hi, hl, hk⟩ hs
    exact ⟨c, hIx c () _ _ hi (hs.mono fun _ _ h => h.mono (by omega)), hs.same _ _ hl (fun h => by have := h.1; omega), hs.same _ _ hk (fun h => by have := h.1; omega)⟩
  · rintro pre x post W e ⟨hi, hl, hk⟩
    refine (round_one hrec (fun o h => hM _ o (by omega) h) (by omega) hI hIx (hps x) (hAx pre x) hl (hassign _ pre x post W e hi (by have := heap_lt hl; omega)) (fun a1 W2 hr hx => hbody _ pre x post a1 W2 e (by omega) hr hx)).mono ?_
    rintro e' W' ⟨hs, hq⟩
    have hk' : W'.heap[w.heap.size]? = some (.deferred (some [])) := hs.same _ _ hk fun h => by
      rcases h with h | h
      · have := hM _ _ (Nat.le_refl _) h; cases this
      · omega
    refine ⟨hs.mono fun k o h => h.imp id fun h => by omega, ?_⟩
    rcases hq with ⟨rfl, hi, hl⟩ | ⟨rfl, c, hi, hl⟩
    · exact .inl ⟨rfl, hi, hl, hk'⟩
    · exact .inr ⟨rfl, c, hi, hl, hk'⟩
  · rintro e W2 ⟨⟨v, rfl⟩, (⟨hi, hl, hk⟩ | ⟨c, hi, hl, hk⟩)⟩
    · refine ⟨none, _, by have := run_endLoop (P := P) hl (by rw [hrec]; simp); rw [hrec] at this; exact this, hdone w.heap.size _ (Nat.le_refl _) (hI _ _ _ hi ((Spare.refl _ _).put _ hl (.inr ⟨by omega, rfl⟩))) ((World.putObj_heap_other (by omega)).trans hk)⟩
    · refine ⟨some c, _, by have := run_endLoop (P := P) hl (by rw [hrec]; simp); rw [hrec] at this; exact this, hstop w.heap.size c _ (Nat.le_refl _) (hIx c () _ _ hi ((Spare.refl _ _).put _ hl (.inr ⟨by omega, rfl⟩))) ((World.putObj_heap_other (by omega)).trans hk)⟩

/-- The statement, in a round of another loop. -/
theorem range_in {l₀ : Nat} (hl₀ : ∃ r, w.heap[l₀]? = some (.loop r)) (hg : a.eval g = .func (.func gf) #[] lb) (eg : ∀ args w, (callFunc gf args).run P w = .ok (.enter gf args) w) (hps : ∀ x, (encs x).size = ps.size)
    (xs : List α) (hM : ∀ k o, w.heap.size ≤ k → M k o → o.isCells = true) (hseq : ∀ W, Below w.heap.size w W → Deals P gf lb encs xs (fun k o => M k o ∨ (w.heap.size ≤ k ∧ k < W.heap.size)) W)
    (hI : Stays w.heap.size I) (hIx : ∀ c, Stays w.heap.size (fun (_ : Unit) => Ix c)) (hAx : ∀ pre x a1, Stays w.heap.size (fun (_ : Unit) => Ax pre x a1)) (h0 : I [] w)
    (hassign : ∀ l pre x post W, xs = pre ++ x :: post → I pre W → w.heap.size < W.heap.size →
      assign.wpIn (Fence.wide.inRound l) 3 P (Exit.then (fun a1 W1 => Spare M W W1 ∧ Ax pre x a1 W1) (fun _ _ _ => False)) { tmps := (ps.zip (encs x)).foldl (fun t (p, v) => t.setIfInBounds p v) a.tmps, defers := [] } W)
    (hbody : ∀ l pre x post a1 W, xs = pre ++ x :: post → w.heap.size ≤ l → (∃ r, W.heap[l]? = some (.loop r)) → Ax pre x a1 W → body.wpIn (Fence.wide.inRound l) 3 P (rpost M I Ix (pre ++ [x]) W) a1 W)
    (hdone : ∀ W, I xs W → Q .normal a W) (hstop : ∀ c W, Ix c W → c.wpIn (Fence.wide.inRound l₀) n P Q a W) :
    (Code.rangeFunc g ps assign body).wpIn (Fence.wide.inRound l₀) n P Q a w := by
  obtain ⟨r₀, hl₀⟩ := hl₀
  refine wpIn_rangeFunc fun fn _ => ?_
  obtain ⟨rec, hrec⟩ : ∃ rec : LoopState → Option Code → Loop, rec = fun st pe => { state := st, pending := pe, fn, tmps := a.tmps, params := ps, assign, body, defers := r₀.defers } := ⟨_, rfl⟩
  obtain ⟨W1, hW1⟩ : ∃ W1, w.alloc (.loop (rec .ready none)) = W1 := ⟨_, rfl⟩
  have hz1 : W1.heap.size = w.heap.size + 1 := by rw [← hW1]; simp
  have hL1 : W1.heap[w.heap.size]? = some (.loop (rec .ready none)) := by rw [← hW1]; exact World.alloc_heap_new w _
  have hb1 : Below w.heap.size w W1 := by rw [← hW1]; exact (Below.refl _ w).alloc (Nat.le_refl _) _
  have hI1 : I [] W1 := hI _ _ _ h0 (Spare.below hb1 (Nat.le_refl _))
  refine ⟨w.heap.size, [], W1, { target := .fn (.func gf) lb, args := #[.func (.yield w.heap.size) #[] #[]] }, W1, gf,
    #[.func (.yield w.heap.size) #[] #[]] ++ lb, W1, ?_, ?_, fun _ _ => trivial, ?_, fun h => by simp [Fence.wide] at h, ?_⟩
  · rw [← hW1, hrec]; exact run_enterLoop_inner hl₀ _ _ _ _ _
  · simp only [resolve, hg]
    simp [go_sem]
  · simp [invoke, go_sem, eg]
  refine CallsIn.inRound _ (calls_wide ((hseq W1 hb1 w.heap.size
    (fun pre W => I pre W ∧ W.heap[w.heap.size]? = some (.loop (rec .ready none)))
    (fun W => ∃ c, Ix c W ∧ W.heap[w.heap.size]? = some (.loop (rec .done (some c))))
    ?_ ?_ ?_ ⟨hI1, hL1⟩).mono ?_))
  · rintro pre A B ⟨hi, hl⟩ hs
    exact ⟨hI _ _ _ hi (hs.mono fun _ _ h => h.mono (by omega)), hs.same _ _ hl (fun h => by have := h.1; omega)⟩
  · rintro _ A B ⟨c, hi, hl⟩ hs
    exact ⟨c, hIx c () _ _ hi (hs.mono fun _ _ h => h.mono (by omega)), hs.same _ _ hl (fun h => by have := h.1; omega)⟩
  · rintro pre x post W e ⟨hi, hl⟩
    refine (round_one hrec (fun o h => hM _ o (by omega) h) (by omega) hI hIx (hps x) (hAx pre x) hl (hassign _ pre x post W e hi (heap_lt hl)) (fun a1 W2 hr hx => hbody _ pre x post a1 W2 e (by omega) hr hx)).mono ?_
    rintro e' W' ⟨hs, hq⟩
    refine ⟨hs.mono fun k o h => h.imp id fun h => by omega, ?_⟩
    rcases hq with ⟨rfl, hi, hl⟩ | ⟨rfl, c, hi, hl⟩
    · exact .inl ⟨rfl, hi, hl⟩
    · exact .inr ⟨rfl, c, hi, hl⟩
  · rintro e W2 ⟨⟨v, rfl⟩, (⟨hi, hl⟩ | ⟨c, hi, hl⟩)⟩
    · refine ⟨none, _, by have := run_endLoop (P := P) hl (by rw [hrec]; simp); rw [hrec] at this; exact this, hdone _ (hI _ _ _ hi ((Spare.refl _ _).put _ hl (.inr ⟨by omega, rfl⟩)))⟩
    · refine ⟨some c, _, by have := run_endLoop (P := P) hl (by rw [hrec]; simp); rw [hrec] at this; exact this, hstop c _ (hIx c () _ _ hi ((Spare.refl _ _).put _ hl (.inr ⟨by omega, rfl⟩)))⟩

end Go.Proofs.Ytemmfnlnhekclaa

namespace Go.Proofs.Ytemmfnlnhekclaa
set_option maxRecDepth 100000
open Go.RowKit

set_option maxHeartbeats 400000 in
theorem columns_any (A B : Int) (C D : Nat) (w : World) (h1 : C < D) (h2 : D < 6) :
    Calls Try.prog 79 #[.agg #[.int .i64 A, .int .i64 B, .int .i64 C, .int .i64 D]] w fun e w' => e = .returned (.int .i64 (mskI C D)) ∧ Below w.heap.size w w' := by
  have H := Lib.hid (msk_num D h2 C h1)
  obtain ⟨W0, hW0⟩ : ∃ W0, W0 = w.alloc (.cells #[.int .i64 A, .int .i64 B, .int .i64 C, .int .i64 D] 48) := ⟨_, rfl⟩
  have bb : Hid (Below w.heap.size w W0) := by subst hW0; exact (Below.refl _ _).alloc (Nat.le_refl _) _
  have s2 : W0.cell? ⟨w.heap.size, 2, none⟩ = some (.int .i64 C) := by subst hW0; go_simp
  have s3 : W0.cell? ⟨w.heap.size, 3, none⟩ = some (.int .i64 D) := by subst hW0; go_simp
  go_enter Try.func79, Try.ntmps79
  go_wp2_with fail
  rw [← hW0]
  clear hW0
  go_quiet (fail)
  go_wp2_with fail
  go_ret
  exact ⟨by rw [← H.out]; rfl, below_drewN bb.out _⟩

set_option maxHeartbeats 1000000 in
theorem crosses_any (W : Nat) (a : Option Addr) (n cap : Nat) (xs : List Int) (A B C D : Nat) (w : World) (h : Row w a n xs) (hv : Im W n xs) (hA : A < n) (hB : B < n) (hC : C < D) (hD : D < W) :
    Calls Try.prog 91 #[.agg #[.int .i64 A, .int .i64 B, .int .i64 C, .int .i64 D], .agg #[.int .i64 W, .slice a n cap]] w fun e w' => e = .returned (.bool (swC (cellOf xs) A B C D)) ∧ Below w.heap.size w w' := by
  have hw6 := hv.w6
  have hn6 := hv.l6
  have hD6 : D < 6 := by omega
  have hsw := Lib.hid (cross_row hv hA hB hC hD)
  obtain ⟨W0, hW0⟩ : ∃ W0, W0 = (w.alloc (.cells #[.int .i64 A, .int .i64 B, .int .i64 C, .int .i64 D] 48)).alloc (.cells #[.int .i64 W, .slice a n cap] 35) := ⟨_, rfl⟩
  have bb : Hid (Below w.heap.size w W0) := by subst hW0; exact ((Below.refl _ _).alloc (Nat.le_refl _) _).alloc (by simp) _
  have s0 : W0.cell? ⟨w.heap.size, 0, none⟩ = some (.int .i64 A) := by subst hW0; go_simp
  have s1 : W0.cell? ⟨w.heap.size, 1, none⟩ = some (.int .i64 B) := by subst hW0; go_simp
  have s2 : W0.cell? ⟨w.heap.size, 2, none⟩ = some (.int .i64 C) := by subst hW0; go_simp
  have s3 : W0.cell? ⟨w.heap.size, 3, none⟩ = some (.int .i64 D) := by subst hW0; go_simp
  have x1 : W0.cell? ⟨w.heap.size + 1, 1, none⟩ = some (.slice a n cap) := by subst hW0; go_simp
  have r := h.bel bb.out
  obtain ⟨b, off, rfl, cA⟩ := row_at r hA
  obtain ⟨b', off', e, cB⟩ := row_at r hB
  cases e
  obtain ⟨x, ex, hx⟩ := hv.nat hA
  obtain ⟨y, ey, hy⟩ := hv.nat hB
  rw [ex] at cA hsw
  rw [ey] at cB hsw
  have ax := and_63 D hD6 C hC x hx
  have ay := and_63 D hD6 C hC y hy
  clear h r hv ex ey
  have f0 := fun p : Bw W0 => bw_cell s0 p
  have f1 := fun p : Bw W0 => bw_cell s1 p
  have f2 := fun p : Bw W0 => bw_cell s2 p
  have f3 := fun p : Bw W0 => bw_cell s3 p
  have g1 := fun p : Bw W0 => bw_cell x1 p
  have gA := fun p : Bw W0 => bw_cell cA p
  have gB := fun p : Bw W0 => bw_cell cB p
  have cc : ∀ p : Bw W0, Calls Try.prog 79 #[.agg #[.int .i64 A, .int .i64 B, .int .i64 C, .int .i64 D]] p.v (fun e w' => e = .returned (.int .i64 (mskI C D)) ∧ ∃ q : Bw W0, w' = q.v) := fun p =>
    bw_of (columns_any _ _ C D _ hC hD6)
  replace cc := Lib.hid cc
  go_enter Try.func91, Try.ntmps91
  go_wp2_with fail
  rw [← hW0]
  clear hW0
  refine wp_region_bw (by kernel_rfl) (by kernel_rfl) ?_
  repeat (go_big_quiet_step (with_reducible exact cc.out _))
  refine wpQuiet_nil ?_
  intro _ hw'
  obtain ⟨pq, rfl⟩ := hw'
  have k0 := f0 pq
  have k1 := f1 pq
  have k2 := f2 pq
  have k3 := f3 pq
  have bq := Lib.hid (bb.out.trans (pq.h.mono bb.out.size))
  clear f0 f1 f2 f3 g1 gA gB cc s0 s1 s2 s3 x1 cA cB bb
  generalize pq.v = W1 at k0 k1 k2 k3 bq ⊢
  clear pq
  generalize hu : bits BinOp.and IntKind.i64 (x : Int) (mskI C D) = u at *
  generalize hq : bits BinOp.and IntKind.i64 (y : Int) (mskI C D) = v at *
  clear hu hq
  go_wp2_with fail
  refine (rmany_any u _ ax.1 ax.2).mono ?_
  rintro e w2 ⟨rfl, rfl⟩
  obtain ⟨t, ht⟩ : ∃ t, cntI u 6 = t := ⟨_, rfl⟩
  rw [ht] at hsw ⊢
  replace ht := Lib.hid ht
  by_cases h1 : t = 1
  case neg =>
    have e1 : (t == 1) = false := by rw [beq_eq_false_iff_ne]; exact h1
    have e2 : decide (t = 1) = false := decide_eq_false h1
    rw [e1, Bool.false_and] at hsw
    go_wp2_with fail
    go_ret
    exact ⟨by rw [← hsw.out]; rfl, bq.out⟩
  subst h1
  go_wp2_with fail
  refine (columns_any _ _ C D _ hC hD6).mono ?_
  rintro e w3 ⟨rfl, hb⟩
  replace bq := Lib.hid (bq.out.trans (hb.mono bq.out.size))
  clear hb
  rw [show ((1 : Int) == 1) = true from rfl, Bool.true_and] at hsw
  go_wp2_with fail
  go_ret
  exact ⟨by rw [← hsw.out]; rfl, bq.out⟩
end Go.Proofs.Ytemmfnlnhekclaa

namespace Go.Proofs.Ytemmfnlnhekclaa
set_option maxRecDepth 100000
open Go.RowKit
attribute [local go_sem] Oper.semAt_some

def encP (p : Nat × Nat) : Array Value := #[.int .i64 p.1, .int .i64 p.2]

end Go.Proofs.Ytemmfnlnhekclaa

namespace Go.Proofs.Ytemmfnlnhekclaa
set_option maxRecDepth 100000
open Go.RowKit
attribute [local go_sem] Oper.semAt_some

def encT (s : SwT) : Array Value := #[.agg #[.int .i64 s.1, .int .i64 s.2.1, .int .i64 s.2.2.1, .int .i64 s.2.2.2]]
/-- The box of an image that the iterator holds. -/
structure SI (B : Nat) (W : Int) (n cap : Nat) (s : Option Addr) (xs : List Int) (V : World) : Prop where
  c0 : V.cell? ⟨B, 0, none⟩ = some (.int .i64 W)
  c1 : V.cell? ⟨B, 1, none⟩ = some (.slice s n cap)
  row : Row V s n xs
theorem Spare.srow {m : Nat} {A B : World} (h : Spare (Free m) A B) {s : Option Addr} {n : Nat} {xs : List Int} (hr : Row A s n xs) : Row B s n xs :=
  ⟨hr.1, hr.2.imp id fun ⟨b, off, e, hc⟩ => ⟨b, off, e, fun i hi => h.fcell (hc i hi)⟩⟩
theorem SI.free {B : Nat} {W : Int} {n cap : Nat} {s : Option Addr} {xs : List Int} {A C : World} {m : Nat} (h : SI B W n cap s xs A) (hs : Spare (Free m) A C) : SI B W n cap s xs C :=
  ⟨hs.fcell h.c0, hs.fcell h.c1, hs.srow h.row⟩
theorem SI.bel {B : Nat} {W : Int} {n cap : Nat} {s : Option Addr} {xs : List Int} {A C : World} (h : SI B W n cap s xs A) (hb : Below A.heap.size A C) : SI B W n cap s xs C :=
  h.free (m := 0) (Spare.below hb (Nat.le_refl _))

theorem Stays.and {β : Type} {m : Nat} {I I' : β → World → Prop} (h : Stays m I) (h' : Stays m I') : Stays m fun s W => I s W ∧ I' s W := fun s A C hi hs => ⟨h s A C hi.1 hs, h' s A C hi.2 hs⟩
theorem stays_si {β : Type} (m B : Nat) (W : Int) (n cap : Nat) (s : Option Addr) (xs : List Int) : Stays m fun (_ : β) V => SI B W n cap s xs V := fun _ _ _ hi hs => hi.free hs
theorem stays_box {β : Type} (m B : Nat) (t : TypeId) (v : Value) : Stays m fun (_ : β) V => Boxed V B t v := fun _ _ _ hi hs => hs.fbox hi
theorem stays_spare {β : Type} {m : Nat} {M : Nat → Obj → Prop} {A : World} (h : A.heap.size ≤ m) : Stays m fun (_ : β) V => Spare M A V := fun _ _ C hi hs =>
  ⟨hs.os.trans hi.os, hs.tape.trans hi.tape, hs.output.trans hi.output, Nat.le_trans hi.size hs.size, fun k o hk hn => hs.same k o (hi.same k o hk hn) fun hf => by have := heap_lt hk; have := hf.1; omega⟩
theorem stays_pure {β : Type} (m : Nat) (p : β → Prop) : Stays m fun s (_ : World) => p s := fun _ _ _ hi _ => hi

end Go.Proofs.Ytemmfnlnhekclaa

namespace Go.Proofs.Ytemmfnlnhekclaa
set_option maxRecDepth 100000
open Go.RowKit
attribute [local go_sem] Oper.semAt_some

/-- How many switches an image has, or -1. -/
def manyS (W : Int) (xs : List Int) : Int := if validB W xs = true then manyC (cellOf xs) W.toNat xs.length else -1

theorem SI.spare {M : Nat → Obj → Prop} {B : Nat} {W : Int} {n cap : Nat} {s : Option Addr} {xs : List Int} {A C : World} (h : SI B W n cap s xs A) (hs : Spare M A C) (hB : ∀ o, ¬ M B o) (hr : ∀ b off, s = some ⟨b, off, none⟩ → 0 < n → ∀ o, ¬ M b o) : SI B W n cap s xs C := by
  refine ⟨hs.cell h.c0 fun o _ _ => hB o, hs.cell h.c1 fun o _ _ => hB o, h.row.1, ?_⟩
  rcases h.row.2 with h0 | ⟨b, off, e, hc⟩
  · exact .inl h0
  · exact .inr ⟨b, off, e, fun i hi => hs.cell (hc i hi) fun o _ _ => hr b off e (by omega) o⟩
theorem row_lt' {w : World} {s : Option Addr} {n : Nat} {xs : List Int} (h : Row w s n xs) : ∀ b off, s = some ⟨b, off, none⟩ → 0 < n → b < w.heap.size := by
  intro b off e hn
  rcases h.2 with h0 | ⟨b', off', e', hc⟩
  · omega
  · rw [e] at e'; cases e'; exact block_lt (hc 0 hn)

theorem stays_below {β : Type} {m B : Nat} {w : World} (hB : B ≤ m) (hw : B ≤ w.heap.size) : Stays m fun (_ : β) V => Below B w V := fun _ V C hi hs =>
  ⟨hs.os.trans hi.os, hs.tape.trans hi.tape, hs.output.trans hi.output, Nat.le_trans hi.size hs.size, fun k hk => by
    have hV := hi.size
    have e : V.heap[k]? = some (V.heap[k]'(by omega)) := Array.getElem?_eq_getElem (by omega)
    rw [hs.same k _ e (fun hf => by have := hf.1; omega), ← e]
    exact hi.block k hk⟩
theorem many_135 : ∀ n, n < 7 → ∀ W, W < 7 → n * (n - 1) / 2 * (W * W / 4) ≤ 135 := by decide +kernel
theorem swl_135 (c : Nat → Nat → Bool) {W n : Nat} (hW : W < 7) (hn : n < 7) : (swL c W n).length ≤ 135 := by
  have h1 := swl_len c W n
  have h2 := many_le c hW hn
  have h3 := many_135 n hn W hW
  omega

end Go.Proofs.Ytemmfnlnhekclaa

namespace Go.Proofs.Ytemmfnlnhekclaa
set_option maxRecDepth 100000
open Go.RowKit

/-- A place that has two rows and two columns of the image, in order. -/
def placeB (W : Int) (n : Nat) (A B C D : Int) : Bool := decide (0 ≤ A ∧ A < B ∧ B < n ∧ 0 ≤ C ∧ C < D ∧ D < W)
theorem placeB_iff {W : Int} {n : Nat} {A B C D : Int} : placeB W n A B C D = true ↔ 0 ≤ A ∧ A < B ∧ B < n ∧ 0 ≤ C ∧ C < D ∧ D < W := decide_eq_true_iff
theorem placeB_no {W : Int} {n : Nat} {A B C D : Int} (h : ¬ (0 ≤ A ∧ A < B ∧ B < n ∧ 0 ≤ C ∧ C < D ∧ D < W)) : placeB W n A B C D = false := decide_eq_false h
/-- An image has a switch. -/
def okB (W : Int) (xs : List Int) (A B C D : Int) : Bool := validB W xs && (placeB W xs.length A B C D && swC (cellOf xs) A.toNat B.toNat C.toNat D.toNat)
theorem okB_no1 {W : Int} {xs : List Int} {A B C D : Int} (h : validB W xs = false) : okB W xs A B C D = false := by simp [okB, h]
theorem okB_no2 {W : Int} {xs : List Int} {A B C D : Int} (h : placeB W xs.length A B C D = false) : okB W xs A B C D = false := by simp [okB, h]
theorem okB_yes {W : Nat} {n : Nat} {xs : List Int} (h : Im W n xs) {A B C D : Nat} (h1 : A < B) (h2 : B < n) (h3 : C < D) (h4 : D < W) : okB W xs A B C D = swC (cellOf xs) A B C D := by
  have hp : placeB W xs.length A B C D = true := placeB_iff.2 (by have := h.hl; omega)
  simp [okB, h.valid, hp]
theorem okB_im {W : Nat} {n : Nat} {xs : List Int} (h : Im W n xs) {A B C D : Int} (ho : okB W xs A B C D = true) : ∃ A' B' C' D' : Nat, A = A' ∧ B = B' ∧ C = C' ∧ D = D' ∧ A' < B' ∧ B' < n ∧ C' < D' ∧ D' < W ∧ swC (cellOf xs) A' B' C' D' = true := by
  simp only [okB, Bool.and_eq_true] at ho
  have hp := placeB_iff.1 ho.2.1
  have hl := h.hl
  exact ⟨A.toNat, B.toNat, C.toNat, D.toNat, by omega, by omega, by omega, by omega, by omega, by omega, by omega, by omega, ho.2.2⟩

set_option maxHeartbeats 2000000 in
theorem swok_impl (W : Int) (a : Option Addr) (n cap : Nat) (xs : List Int) (A B C D : Int) (w : World) (h : Row w a n xs) (hm : n ≤ 9223372036854775807) :
    Calls Try.prog 78 #[.agg #[.int .i64 W, .slice a n cap], .agg #[.int .i64 A, .int .i64 B, .int .i64 C, .int .i64 D]] w fun e w' => e = .returned (.bool (okB W xs A B C D)) ∧ Below w.heap.size w w' := by
  obtain ⟨W0, hW0⟩ : ∃ W0, W0 = (w.alloc (.cells #[.int .i64 W, .slice a n cap] 35)).alloc (.cells #[.int .i64 A, .int .i64 B, .int .i64 C, .int .i64 D] 48) := ⟨_, rfl⟩
  have bb : Hid (Below w.heap.size w W0) := by subst hW0; exact ((Below.refl _ _).alloc (Nat.le_refl _) _).alloc (by simp) _
  have x0 : W0.cell? ⟨w.heap.size, 0, none⟩ = some (.int .i64 W) := by subst hW0; go_simp
  have x1 : W0.cell? ⟨w.heap.size, 1, none⟩ = some (.slice a n cap) := by subst hW0; go_simp
  have s0 : W0.cell? ⟨w.heap.size + 1, 0, none⟩ = some (.int .i64 A) := by subst hW0; go_simp
  have s1 : W0.cell? ⟨w.heap.size + 1, 1, none⟩ = some (.int .i64 B) := by subst hW0; go_simp
  have s2 : W0.cell? ⟨w.heap.size + 1, 2, none⟩ = some (.int .i64 C) := by subst hW0; go_simp
  have s3 : W0.cell? ⟨w.heap.size + 1, 3, none⟩ = some (.int .i64 D) := by subst hW0; go_simp
  have r := Lib.hid (h.bel bb.out)
  clear h
  have hl := r.out.1
  have hlH := Lib.hid hl
  clear hl
  by_cases hv : validB W xs = true
  case neg =>
    have hv : validB W xs = false := by simpa using hv
    go_enter Try.func78, Try.ntmps78
    go_wp2_with fail
    rw [← hW0]
    clear hW0
    refine (valid_impl _ _ _ _ xs _ r.out hm).mono ?_
    rintro e w1 ⟨rfl, hb⟩
    have szw1 := hb.size
    replace x0 := kept hb (block_lt x0) x0
    replace x1 := kept hb (block_lt x1) x1
    replace s0 := kept hb (block_lt s0) s0
    replace s1 := kept hb (block_lt s1) s1
    replace s2 := kept hb (block_lt s2) s2
    replace s3 := kept hb (block_lt s3) s3
    replace r := Lib.hid (r.out.bel hb)
    replace bb := Lib.hid (bb.out.trans (hb.mono bb.out.size))
    clear hb
    rw [hv]
    go_wp2_with fail
    go_ret
    exact ⟨by rw [okB_no1 hv]; rfl, bb.out⟩
  have hI0 := validB_W hv
  obtain ⟨W, rfl⟩ := Int.eq_ofNat_of_zero_le (by omega : 0 ≤ W)
  have hI : Im W n xs := Im.of hv hlH.out
  replace hI := Lib.hid hI
  go_enter Try.func78, Try.ntmps78
  go_wp2_with fail
  rw [← hW0]
  clear hW0
  refine (valid_impl _ _ _ _ xs _ r.out hm).mono ?_
  rintro e w2 ⟨rfl, hb⟩
  have szw2 := hb.size
  replace x0 := kept hb (block_lt x0) x0
  replace x1 := kept hb (block_lt x1) x1
  replace s0 := kept hb (block_lt s0) s0
  replace s1 := kept hb (block_lt s1) s1
  replace s2 := kept hb (block_lt s2) s2
  replace s3 := kept hb (block_lt s3) s3
  replace r := Lib.hid (r.out.bel hb)
  replace bb := Lib.hid (bb.out.trans (hb.mono bb.out.size))
  clear hb
  rw [hv]
  replace hv := Lib.hid hv
  by_cases h1 : A < B
  case neg =>
    have hq := Lib.hid (placeB_no (W := W) (n := xs.length) (A := A) (B := B) (C := C) (D := D) (by omega))
    have d1 : decide (A < B) = false := decide_eq_false h1
    go_wp2_with fail
    go_ret
    exact ⟨by rw [okB_no2 hq.out]; rfl, bb.out⟩
  by_cases h2 : C < D
  case neg =>
    have hq := Lib.hid (placeB_no (W := W) (n := xs.length) (A := A) (B := B) (C := C) (D := D) (by omega))
    have d1 : decide (C < D) = false := decide_eq_false h2
    go_wp2_with fail
    go_ret
    exact ⟨by rw [okB_no2 hq.out]; rfl, bb.out⟩
  obtain ⟨q1, hq1⟩ : ∃ q, cellB W n A C = q := ⟨_, rfl⟩
  go_wp2_with fail
  refine (inside_any _ _ _ _ _ _ _).mono ?_
  rintro e w3 ⟨rfl, hb⟩
  have szw3 := hb.size
  replace x0 := kept hb (block_lt x0) x0
  replace x1 := kept hb (block_lt x1) x1
  replace s0 := kept hb (block_lt s0) s0
  replace s1 := kept hb (block_lt s1) s1
  replace s2 := kept hb (block_lt s2) s2
  replace s3 := kept hb (block_lt s3) s3
  replace r := Lib.hid (r.out.bel hb)
  replace bb := Lib.hid (bb.out.trans (hb.mono bb.out.size))
  clear hb
  rw [hq1]
  cases q1 with
  | false =>
    have hc : ¬ (0 ≤ A ∧ A < n ∧ 0 ≤ C ∧ C < W) := fun h => by have := cellB_iff.2 h; rw [hq1] at this; cases this
    have hq := Lib.hid (placeB_no (W := W) (n := xs.length) (A := A) (B := B) (C := C) (D := D) (by have := hlH.out; omega))
    clear hq1 hc
    go_wp2_with fail
    go_ret
    exact ⟨by rw [okB_no2 hq.out]; rfl, bb.out⟩
  | true =>
    have hc1 := cellB_iff.1 hq1
    clear hq1
    obtain ⟨q2, hq2⟩ : ∃ q, cellB W n B D = q := ⟨_, rfl⟩
    go_wp2_with fail
    refine (inside_any _ _ _ _ _ _ _).mono ?_
    rintro e w4 ⟨rfl, hb⟩
    have szw4 := hb.size
    replace x0 := kept hb (block_lt x0) x0
    replace x1 := kept hb (block_lt x1) x1
    replace s0 := kept hb (block_lt s0) s0
    replace s1 := kept hb (block_lt s1) s1
    replace s2 := kept hb (block_lt s2) s2
    replace s3 := kept hb (block_lt s3) s3
    replace r := Lib.hid (r.out.bel hb)
    replace bb := Lib.hid (bb.out.trans (hb.mono bb.out.size))
    clear hb
    rw [hq2]
    cases q2 with
    | false =>
      have hc : ¬ (0 ≤ B ∧ B < n ∧ 0 ≤ D ∧ D < W) := fun h => by have := cellB_iff.2 h; rw [hq2] at this; cases this
      have hq := Lib.hid (placeB_no (W := W) (n := xs.length) (A := A) (B := B) (C := C) (D := D) (by have := hlH.out; omega))
      clear hq2 hc
      go_wp2_with fail
      go_ret
      exact ⟨by rw [okB_no2 hq.out]; rfl, bb.out⟩
    | true =>
      have hc2 := cellB_iff.1 hq2
      clear hq2
      obtain ⟨A, rfl⟩ := Int.eq_ofNat_of_zero_le hc1.1
      obtain ⟨B, rfl⟩ := Int.eq_ofNat_of_zero_le hc2.1
      obtain ⟨C, rfl⟩ := Int.eq_ofNat_of_zero_le hc1.2.2.1
      obtain ⟨D, rfl⟩ := Int.eq_ofNat_of_zero_le hc2.2.2.1
      have hE := Lib.hid (okB_yes hI.out (A := A) (B := B) (C := C) (D := D) (by omega) (by omega) (by omega) (by omega))
      go_wp2_with fail
      refine (crosses_any W a n cap xs A B C D _ r.out hI.out (by omega) (by omega) (by omega) (by omega)).mono ?_
      rintro e w5 ⟨rfl, hb⟩
      have szw5 := hb.size
      replace x0 := kept hb (block_lt x0) x0
      replace x1 := kept hb (block_lt x1) x1
      replace s0 := kept hb (block_lt s0) s0
      replace s1 := kept hb (block_lt s1) s1
      replace s2 := kept hb (block_lt s2) s2
      replace s3 := kept hb (block_lt s3) s3
      replace r := Lib.hid (r.out.bel hb)
      replace bb := Lib.hid (bb.out.trans (hb.mono bb.out.size))
      clear hb
      go_wp2_with fail
      go_ret
      exact ⟨by rw [hE.out]; rfl, bb.out⟩

set_option maxHeartbeats 1000000 in
theorem okx_no (W : Nat) (a : Option Addr) (n cap : Nat) (xs : List Int) (A B C D : Int) (w : World) (h : Row w a n xs) (hv : Im W n xs) (hp : placeB W n A B C D = false) :
    Calls Try.prog 92 #[.agg #[.int .i64 W, .slice a n cap], .agg #[.int .i64 A, .int .i64 B, .int .i64 C, .int .i64 D]] w fun e w' => e = .returned (.bool false) ∧ Below w.heap.size w w' := by
  obtain ⟨W0, hW0⟩ : ∃ W0, W0 = (w.alloc (.cells #[.int .i64 W, .slice a n cap] 35)).alloc (.cells #[.int .i64 A, .int .i64 B, .int .i64 C, .int .i64 D] 48) := ⟨_, rfl⟩
  have bb : Hid (Below w.heap.size w W0) := by subst hW0; exact ((Below.refl _ _).alloc (Nat.le_refl _) _).alloc (by simp) _
  have x0 : W0.cell? ⟨w.heap.size, 0, none⟩ = some (.int .i64 W) := by subst hW0; go_simp
  have x1 : W0.cell? ⟨w.heap.size, 1, none⟩ = some (.slice a n cap) := by subst hW0; go_simp
  have s0 : W0.cell? ⟨w.heap.size + 1, 0, none⟩ = some (.int .i64 A) := by subst hW0; go_simp
  have s1 : W0.cell? ⟨w.heap.size + 1, 1, none⟩ = some (.int .i64 B) := by subst hW0; go_simp
  have s2 : W0.cell? ⟨w.heap.size + 1, 2, none⟩ = some (.int .i64 C) := by subst hW0; go_simp
  have s3 : W0.cell? ⟨w.heap.size + 1, 3, none⟩ = some (.int .i64 D) := by subst hW0; go_simp
  have r := Lib.hid (h.bel bb.out)
  clear h
  have hw6 := hv.w6
  have hn6 := hv.l6
  clear hv
  go_enter Try.func92, Try.ntmps92
  go_wp2_with fail
  rw [← hW0]
  clear hW0
  refine (in_any _ _ _ _).mono ?_
  rintro e w0_ ⟨rfl, rfl⟩
  by_cases h0 : inB B 0 ((n : Int) - 1) = true
  case neg =>
    have h0 : inB B 0 ((n : Int) - 1) = false := by simpa using h0
    rw [h0]
    go_wp2_with fail
    go_ret
    exact ⟨rfl, bb.out⟩
  rw [h0]
  have g0 := inB_iff.1 h0
  clear h0
  go_wp2_with fail
  refine (in_any _ _ _ _).mono ?_
  rintro e w1_ ⟨rfl, rfl⟩
  by_cases h1 : inB D 0 ((W : Int) - 1) = true
  case neg =>
    have h1 : inB D 0 ((W : Int) - 1) = false := by simpa using h1
    rw [h1]
    go_wp2_with fail
    go_ret
    exact ⟨rfl, bb.out⟩
  rw [h1]
  have g1 := inB_iff.1 h1
  clear h1
  go_wp2_with fail
  refine (in_any _ _ _ _).mono ?_
  rintro e w2_ ⟨rfl, rfl⟩
  by_cases h2 : inB A 0 (B - 1) = true
  case neg =>
    have h2 : inB A 0 (B - 1) = false := by simpa using h2
    rw [h2]
    go_wp2_with fail
    go_ret
    exact ⟨rfl, bb.out⟩
  rw [h2]
  have g2 := inB_iff.1 h2
  clear h2
  go_wp2_with fail
  refine (in_any _ _ _ _).mono ?_
  rintro e w3_ ⟨rfl, rfl⟩
  by_cases h3 : inB C 0 (D - 1) = true
  case neg =>
    have h3 : inB C 0 (D - 1) = false := by simpa using h3
    rw [h3]
    go_wp2_with fail
    go_ret
    exact ⟨rfl, bb.out⟩
  rw [h3]
  have g3 := inB_iff.1 h3
  clear h3
  exact absurd (placeB_iff.2 (show 0 ≤ A ∧ A < B ∧ B < (n : Int) ∧ 0 ≤ C ∧ C < D ∧ D < (W : Int) by omega)) (by rw [hp]; simp)

set_option maxHeartbeats 1000000 in
theorem swok_spec (W : Int) (a : Option Addr) (n cap : Nat) (xs : List Int) (A B C D : Int) (w : World) (h : Row w a n xs) (hm : n ≤ 9223372036854775807) :
    Calls Try.prog 80 #[.agg #[.int .i64 W, .slice a n cap], .agg #[.int .i64 A, .int .i64 B, .int .i64 C, .int .i64 D]] w fun e w' => e = .returned (.bool (okB W xs A B C D)) ∧ Below w.heap.size w w' := by
  obtain ⟨W0, hW0⟩ : ∃ W0, W0 = (w.alloc (.cells #[.int .i64 W, .slice a n cap] 35)).alloc (.cells #[.int .i64 A, .int .i64 B, .int .i64 C, .int .i64 D] 48) := ⟨_, rfl⟩
  have bb : Hid (Below w.heap.size w W0) := by subst hW0; exact ((Below.refl _ _).alloc (Nat.le_refl _) _).alloc (by simp) _
  have x0 : W0.cell? ⟨w.heap.size, 0, none⟩ = some (.int .i64 W) := by subst hW0; go_simp
  have x1 : W0.cell? ⟨w.heap.size, 1, none⟩ = some (.slice a n cap) := by subst hW0; go_simp
  have s0 : W0.cell? ⟨w.heap.size + 1, 0, none⟩ = some (.int .i64 A) := by subst hW0; go_simp
  have s1 : W0.cell? ⟨w.heap.size + 1, 1, none⟩ = some (.int .i64 B) := by subst hW0; go_simp
  have s2 : W0.cell? ⟨w.heap.size + 1, 2, none⟩ = some (.int .i64 C) := by subst hW0; go_simp
  have s3 : W0.cell? ⟨w.heap.size + 1, 3, none⟩ = some (.int .i64 D) := by subst hW0; go_simp
  have r := Lib.hid (h.bel bb.out)
  clear h
  have hl := r.out.1
  have hlH := Lib.hid hl
  clear hl
  by_cases hv : validB W xs = true
  case neg =>
    have hv : validB W xs = false := by simpa using hv
    go_enter Try.func80, Try.ntmps80
    go_wp2_with fail
    rw [← hW0]
    clear hW0
    refine (valid_spec _ _ _ _ xs _ r.out hm).mono ?_
    rintro e w1 ⟨rfl, hb⟩
    have szw1 := hb.size
    replace x0 := kept hb (block_lt x0) x0
    replace x1 := kept hb (block_lt x1) x1
    replace s0 := kept hb (block_lt s0) s0
    replace s1 := kept hb (block_lt s1) s1
    replace s2 := kept hb (block_lt s2) s2
    replace s3 := kept hb (block_lt s3) s3
    replace r := Lib.hid (r.out.bel hb)
    replace bb := Lib.hid (bb.out.trans (hb.mono bb.out.size))
    clear hb
    rw [hv]
    go_wp2_with fail
    go_ret
    exact ⟨by rw [okB_no1 hv]; rfl, bb.out⟩
  have hI0 := validB_W hv
  obtain ⟨W, rfl⟩ := Int.eq_ofNat_of_zero_le (by omega : 0 ≤ W)
  have hI : Im W n xs := Im.of hv hlH.out
  replace hI := Lib.hid hI
  go_enter Try.func80, Try.ntmps80
  go_wp2_with fail
  rw [← hW0]
  clear hW0
  refine (valid_spec _ _ _ _ xs _ r.out hm).mono ?_
  rintro e w2 ⟨rfl, hb⟩
  have szw2 := hb.size
  replace x0 := kept hb (block_lt x0) x0
  replace x1 := kept hb (block_lt x1) x1
  replace s0 := kept hb (block_lt s0) s0
  replace s1 := kept hb (block_lt s1) s1
  replace s2 := kept hb (block_lt s2) s2
  replace s3 := kept hb (block_lt s3) s3
  replace r := Lib.hid (r.out.bel hb)
  replace bb := Lib.hid (bb.out.trans (hb.mono bb.out.size))
  clear hb
  rw [hv]
  replace hv := Lib.hid hv
  obtain ⟨q1, hq1⟩ : ∃ q, placeB W n A B C D = q := ⟨_, rfl⟩
  cases q1 with
  | false =>
    have hq := Lib.hid hq1
    clear hq1
    go_wp2_with fail
    refine (okx_no W a n cap xs A B C D _ r.out hI.out hq.out).mono ?_
    rintro e w3 ⟨rfl, hb⟩
    have szw3 := hb.size
    replace x0 := kept hb (block_lt x0) x0
    replace x1 := kept hb (block_lt x1) x1
    replace s0 := kept hb (block_lt s0) s0
    replace s1 := kept hb (block_lt s1) s1
    replace s2 := kept hb (block_lt s2) s2
    replace s3 := kept hb (block_lt s3) s3
    replace r := Lib.hid (r.out.bel hb)
    replace bb := Lib.hid (bb.out.trans (hb.mono bb.out.size))
    clear hb
    go_wp2_with fail
    go_ret
    exact ⟨by rw [okB_no2 (by rw [hlH.out]; exact hq.out)]; rfl, bb.out⟩
  | true =>
    have hc := placeB_iff.1 hq1
    clear hq1
    obtain ⟨A, rfl⟩ := Int.eq_ofNat_of_zero_le (show 0 ≤ A by omega)
    obtain ⟨B, rfl⟩ := Int.eq_ofNat_of_zero_le (show 0 ≤ B by omega)
    obtain ⟨C, rfl⟩ := Int.eq_ofNat_of_zero_le (show 0 ≤ C by omega)
    obtain ⟨D, rfl⟩ := Int.eq_ofNat_of_zero_le (show 0 ≤ D by omega)
    have hE := Lib.hid (okB_yes hI.out (A := A) (B := B) (C := C) (D := D) (by omega) (by omega) (by omega) (by omega))
    go_wp2_with fail
    refine (okx_any W a n cap xs A B C D _ r.out hI.out (by omega) (by omega) (by omega) (by omega)).mono ?_
    rintro e w4 ⟨rfl, hb⟩
    have szw4 := hb.size
    replace x0 := kept hb (block_lt x0) x0
    replace x1 := kept hb (block_lt x1) x1
    replace s0 := kept hb (block_lt s0) s0
    replace s1 := kept hb (block_lt s1) s1
    replace s2 := kept hb (block_lt s2) s2
    replace s3 := kept hb (block_lt s3) s3
    replace r := Lib.hid (r.out.bel hb)
    replace bb := Lib.hid (bb.out.trans (hb.mono bb.out.size))
    clear hb
    go_wp2_with fail
    go_ret
    exact ⟨by rw [hE.out]; rfl, bb.out⟩
end Go.Proofs.Ytemmfnlnhekclaa

namespace Go.Proofs.Ytemmfnlnhekclaa
set_option maxRecDepth 100000
open Go.RowKit

/-- What doing a switch gives. -/
def doOut (W : Int) (xs : List Int) (A B C D : Int) : Out := if okB W xs A B C D = true then ⟨true, W, flL xs W.toNat xs.length A.toNat B.toNat C.toNat D.toNat⟩ else .no
theorem doOut_no {W : Int} {xs : List Int} {A B C D : Int} (h : okB W xs A B C D = false) : doOut W xs A B C D = .no := if_neg (by rw [h]; simp)
theorem doOut_yes {W n : Nat} {xs : List Int} (h : Im W n xs) {A B C D : Nat} (ho : okB W xs A B C D = true) : doOut W xs A B C D = ⟨true, W, flL xs W n A B C D⟩ := by
  unfold doOut; rw [if_pos ho, h.hl]; rfl

/-- In the middle of doing a switch: the image's copy, at k, has its rows at g. -/
structure DoAt (w wr : World) (k g : Nat) (W n c : Nat) (A B C D : Nat) (ys : List Int) : Prop where
  s0 : wr.cell? ⟨w.heap.size + 1, 0, none⟩ = some (.int .i64 A)
  s1 : wr.cell? ⟨w.heap.size + 1, 1, none⟩ = some (.int .i64 B)
  s2 : wr.cell? ⟨w.heap.size + 1, 2, none⟩ = some (.int .i64 C)
  s3 : wr.cell? ⟨w.heap.size + 1, 3, none⟩ = some (.int .i64 D)
  y0 : wr.cell? ⟨w.heap.size + 1 + 1, 0, none⟩ = some (.int .i64 0)
  y1 : wr.cell? ⟨w.heap.size + 1 + 1, 1, none⟩ = some (.slice none 0 0)
  yf : ∀ o, wr.frozen? ⟨w.heap.size + 1 + 1, o, none⟩ = false
  b0 : wr.cell? ⟨k, 0, none⟩ = some (.int .i64 W)
  b1 : wr.cell? ⟨k, 1, none⟩ = some (.slice (some ⟨g, 0, none⟩) n c)
  own : OwnI wr (w.heap.size + 3) (some ⟨g, 0, none⟩) n c ys
  bel : Below w.heap.size w wr
  hk : w.heap.size + 2 < k
  hg : w.heap.size + 2 < g
  ne : k ≠ g
theorem DoAt.move {w wr w1 : World} {k g W n c A B C D : Nat} {ys : List Int} (h : DoAt w wr k g W n c A B C D ys) (hb : Below wr.heap.size wr w1) : DoAt w w1 k g W n c A B C D ys :=
  ⟨kept hb (block_lt h.s0) h.s0, kept hb (block_lt h.s1) h.s1, kept hb (block_lt h.s2) h.s2, kept hb (block_lt h.s3) h.s3, kept hb (block_lt h.y0) h.y0, kept hb (block_lt h.y1) h.y1,
    fun o => (hb.frozen (p := ⟨w.heap.size + 1 + 1, o, none⟩) (show w.heap.size + 1 + 1 < wr.heap.size from block_lt h.y0)).trans (h.yf o), kept hb (block_lt h.b0) h.b0, kept hb (block_lt h.b1) h.b1,
    h.own.bel hb, h.bel.trans (hb.mono h.bel.size), h.hk, h.hg, h.ne⟩
theorem DoAt.set {w wr : World} {k g W n c A B C D : Nat} {ys : List Int} (h : DoAt w wr k g W n c A B C D ys) (j : Nat) (u : Int) : DoAt w (wr.setCell ⟨g, j, none⟩ (.int .i64 u)) k g W n c A B C D (ys.set j u) := by
  have h1 := h.hg
  have h2 := h.ne
  have o : ∀ {b o : Nat} {v : Value}, b ≠ g → wr.cell? ⟨b, o, none⟩ = some v → (wr.setCell ⟨g, j, none⟩ (.int .i64 u)).cell? ⟨b, o, none⟩ = some v := fun hb hc => by
    rw [World.cell?_setCell_other _ _ _ _ (by first | (simp; done) | (simp; omega))]; exact hc
  exact ⟨o (by omega) h.s0, o (by omega) h.s1, o (by omega) h.s2, o (by omega) h.s3, o (by omega) h.y0, o (by omega) h.y1,
    fun o => (World.frozen?_of_block (a := ⟨w.heap.size + 1 + 1, o, none⟩) (Below.heap_setCell _ _ _ _ (by simp; omega))).trans (h.yf o), o h2 h.b0, o h2 h.b1,
    h.own.set j u, h.bel.setCell (show w.heap.size ≤ g by omega) _, h.hk, h.hg, h.ne⟩
theorem DoAt.of1 {w w1 w2 : World} {g Wb n c A B C D : Nat} {ys : List Int} (s0 : w1.cell? ⟨w.heap.size + 1, 0, none⟩ = some (.int .i64 A)) (s1 : w1.cell? ⟨w.heap.size + 1, 1, none⟩ = some (.int .i64 B)) (s2 : w1.cell? ⟨w.heap.size + 1, 2, none⟩ = some (.int .i64 C)) (s3 : w1.cell? ⟨w.heap.size + 1, 3, none⟩ = some (.int .i64 D))
    (y0 : w1.cell? ⟨w.heap.size + 1 + 1, 0, none⟩ = some (.int .i64 0)) (y1 : w1.cell? ⟨w.heap.size + 1 + 1, 1, none⟩ = some (.slice none 0 0)) (yf : ∀ o, w1.frozen? ⟨w.heap.size + 1 + 1, o, none⟩ = false) (bb : Below w.heap.size w w1) (lz : w.heap.size + 2 < w1.heap.size)
    (hb : Below w1.heap.size w1 w2) (hg : w1.heap.size ≤ g) (ho : OwnI w2 w1.heap.size (some ⟨g, 0, none⟩) n c ys) :
    DoAt w (w2.alloc (.cells #[.int .i64 Wb, .slice (some ⟨g, 0, none⟩) n c] 35)) w2.heap.size g Wb n c A B C D ys := by
  have hz := hb.size
  have hgl : g < w2.heap.size := by
    rcases ho.cases with ⟨h, _⟩ | ⟨g', e, _, h⟩
    · cases h
    · cases e; exact h
  have hB : Below w1.heap.size w1 (w2.alloc (.cells #[.int .i64 Wb, .slice (some ⟨g, 0, none⟩) n c] 35)) := hb.alloc hz _
  exact ⟨kept hB (block_lt s0) s0, kept hB (block_lt s1) s1, kept hB (block_lt s2) s2, kept hB (block_lt s3) s3, kept hB (block_lt y0) y0, kept hB (block_lt y1) y1, fun o => (hB.frozen (p := ⟨w.heap.size + 1 + 1, o, none⟩) (show w.heap.size + 1 + 1 < w1.heap.size by omega)).trans (yf o),
    by simp, by simp, (ho.bel ((Below.refl _ _).alloc (Nat.le_refl _) _)).mono (by omega), bb.trans (hB.mono bb.size), by omega, by omega, by omega⟩
theorem DoAt.of2 {w w1 w2 : World} {g Wb n c A B C D : Nat} {ys : List Int} (s0 : w1.cell? ⟨w.heap.size + 1, 0, none⟩ = some (.int .i64 A)) (s1 : w1.cell? ⟨w.heap.size + 1, 1, none⟩ = some (.int .i64 B)) (s2 : w1.cell? ⟨w.heap.size + 1, 2, none⟩ = some (.int .i64 C)) (s3 : w1.cell? ⟨w.heap.size + 1, 3, none⟩ = some (.int .i64 D))
    (y0 : w1.cell? ⟨w.heap.size + 1 + 1, 0, none⟩ = some (.int .i64 0)) (y1 : w1.cell? ⟨w.heap.size + 1 + 1, 1, none⟩ = some (.slice none 0 0)) (yf : ∀ o, w1.frozen? ⟨w.heap.size + 1 + 1, o, none⟩ = false) (bb : Below w.heap.size w w1) (lz : w.heap.size + 2 < w1.heap.size)
    (hb : Below (w1.heap.size + 1) (w1.alloc (.cells #[.int .i64 0, .slice none 0 0] 35)).drew w2) (hg : w1.heap.size + 1 ≤ g) (ho : OwnI w2 (w1.heap.size + 1) (some ⟨g, 0, none⟩) n c ys) :
    DoAt w ((w2.setCell ⟨w1.heap.size, 0, none⟩ (.int .i64 Wb)).setCell ⟨w1.heap.size, 1, none⟩ (.slice (some ⟨g, 0, none⟩) n c)) w1.heap.size g Wb n c A B C D ys := by
  have z0 : w2.cell? ⟨w1.heap.size, 0, none⟩ = some (.int .i64 0) := kept hb (by simp) (by simp)
  have z1 : w2.cell? ⟨w1.heap.size, 1, none⟩ = some (.slice none 0 0) := kept hb (by simp) (by simp)
  have hB : Below w1.heap.size w1 ((w2.setCell ⟨w1.heap.size, 0, none⟩ (.int .i64 Wb)).setCell ⟨w1.heap.size, 1, none⟩ (.slice (some ⟨g, 0, none⟩) n c)) :=
    (((((Below.refl _ _).alloc (Nat.le_refl _) _).drew).trans (hb.mono (by omega))).setCell (by simp) _).setCell (by simp) _
  have z1' : (w2.setCell ⟨w1.heap.size, 0, none⟩ (.int .i64 Wb)).cell? ⟨w1.heap.size, 1, none⟩ = some (.slice none 0 0) := by rw [World.cell?_setCell_other _ _ _ _ (by simp)]; exact z1
  exact ⟨kept hB (block_lt s0) s0, kept hB (block_lt s1) s1, kept hB (block_lt s2) s2, kept hB (block_lt s3) s3, kept hB (block_lt y0) y0, kept hB (block_lt y1) y1, fun o => (hB.frozen (p := ⟨w.heap.size + 1 + 1, o, none⟩) (show w.heap.size + 1 + 1 < w1.heap.size by omega)).trans (yf o),
    by rw [World.cell?_setCell_other _ _ _ _ (by simp)]; exact World.cell?_setCell_same _ _ _ z0, World.cell?_setCell_same _ _ _ z1',
    ((ho.store (by simp) _).store (by simp) _).mono (by omega), bb.trans (hB.mono bb.size), by omega, by omega, by omega⟩

theorem keep5 {u v : World} {p0 p1 p2 p3 p4 : Addr} {v0 v1 v2 v3 v4 : Value} (hb : Below u.heap.size u v) (h : u.cell? p0 = some v0 ∧ u.cell? p1 = some v1 ∧ u.cell? p2 = some v2 ∧ u.cell? p3 = some v3 ∧ u.cell? p4 = some v4) : v.cell? p0 = some v0 ∧ v.cell? p1 = some v1 ∧ v.cell? p2 = some v2 ∧ v.cell? p3 = some v3 ∧ v.cell? p4 = some v4 :=
  ⟨kept hb (block_lt h.1) h.1, kept hb (block_lt h.2.1) h.2.1, kept hb (block_lt h.2.2.1) h.2.2.1, kept hb (block_lt h.2.2.2.1) h.2.2.2.1, kept hb (block_lt h.2.2.2.2) h.2.2.2.2⟩
theorem set5 {u : World} {g j b0 b1 b2 b3 b4 o0 o1 o2 o3 o4 : Nat} {x v0 v1 v2 v3 v4 : Value} (h0 : b0 ≠ g) (h1 : b1 ≠ g) (h2 : b2 ≠ g) (h3 : b3 ≠ g) (h4 : b4 ≠ g) (h : u.cell? ⟨b0, o0, none⟩ = some v0 ∧ u.cell? ⟨b1, o1, none⟩ = some v1 ∧ u.cell? ⟨b2, o2, none⟩ = some v2 ∧ u.cell? ⟨b3, o3, none⟩ = some v3 ∧ u.cell? ⟨b4, o4, none⟩ = some v4) :
    (u.setCell ⟨g, j, none⟩ x).cell? ⟨b0, o0, none⟩ = some v0 ∧ (u.setCell ⟨g, j, none⟩ x).cell? ⟨b1, o1, none⟩ = some v1 ∧ (u.setCell ⟨g, j, none⟩ x).cell? ⟨b2, o2, none⟩ = some v2 ∧ (u.setCell ⟨g, j, none⟩ x).cell? ⟨b3, o3, none⟩ = some v3 ∧ (u.setCell ⟨g, j, none⟩ x).cell? ⟨b4, o4, none⟩ = some v4 := by
  have o : ∀ {b o : Nat} {v : Value}, b ≠ g → u.cell? ⟨b, o, none⟩ = some v → (u.setCell ⟨g, j, none⟩ x).cell? ⟨b, o, none⟩ = some v := fun hb hc =>
    (World.cell?_of_block (Below.heap_setCell _ _ _ _ hb)).trans hc
  exact ⟨o h0 h.1, o h1 h.2.1, o h2 h.2.2.1, o h3 h.2.2.2.1, o h4 h.2.2.2.2⟩

-- BEHIND: gen20

set_option maxHeartbeats 4000000 in
theorem swdo_impl (W : Int) (a : Option Addr) (n cap : Nat) (xs : List Int) (A B C D : Int) (w : World) (h : Row w a n xs) (hm : n ≤ 9223372036854775807) :
    Calls Try.prog 40 #[.agg #[.int .i64 W, .slice a n cap], .agg #[.int .i64 A, .int .i64 B, .int .i64 C, .int .i64 D]] w (Gives w (doOut W xs A B C D)) := by
  obtain ⟨W0, hW0⟩ : ∃ W0, W0 = ((w.alloc (.cells #[.int .i64 W, .slice a n cap] 35)).alloc (.cells #[.int .i64 A, .int .i64 B, .int .i64 C, .int .i64 D] 48)).alloc (.cells #[.int .i64 0, .slice none 0 0] 35) := ⟨_, rfl⟩
  have bb : Hid (Below w.heap.size w W0) := by subst hW0; exact (((Below.refl _ _).alloc (Nat.le_refl _) _).alloc (by simp) _).alloc (by simp; omega) _
  have x0 : W0.cell? ⟨w.heap.size, 0, none⟩ = some (.int .i64 W) := by subst hW0; go_simp
  have x1 : W0.cell? ⟨w.heap.size, 1, none⟩ = some (.slice a n cap) := by subst hW0; go_simp
  have s0 : W0.cell? ⟨w.heap.size + 1, 0, none⟩ = some (.int .i64 A) := by subst hW0; go_simp
  have s1 : W0.cell? ⟨w.heap.size + 1, 1, none⟩ = some (.int .i64 B) := by subst hW0; go_simp
  have s2 : W0.cell? ⟨w.heap.size + 1, 2, none⟩ = some (.int .i64 C) := by subst hW0; go_simp
  have s3 : W0.cell? ⟨w.heap.size + 1, 3, none⟩ = some (.int .i64 D) := by subst hW0; go_simp
  have y0 : W0.cell? ⟨w.heap.size + 1 + 1, 0, none⟩ = some (.int .i64 0) := by subst hW0; go_simp
  have y1 : W0.cell? ⟨w.heap.size + 1 + 1, 1, none⟩ = some (.slice none 0 0) := by subst hW0; go_simp
  have yf : ∀ o, W0.frozen? ⟨w.heap.size + 1 + 1, o, none⟩ = false := fun o => by subst hW0; go_simp
  have r := Lib.hid (h.bel bb.out)
  clear h
  have l0 := block_lt y0
  simp only at l0
  have hl := Lib.hid r.out.1
  by_cases ho : okB W xs A B C D = true
  case neg =>
    have ho : okB W xs A B C D = false := by simpa using ho
    rw [doOut_no ho]
    go_enter Try.func40, Try.ntmps40
    go_wp2_with fail
    rw [← hW0]
    clear hW0
    refine (swok_impl _ _ _ _ xs _ _ _ _ _ r.out hm).mono ?_
    rintro e w1 ⟨rfl, hb⟩
    rw [ho]
    replace yf : ∀ o, w1.frozen? ⟨w.heap.size + 1 + 1, o, none⟩ = false := fun o => (hb.frozen (p := ⟨w.heap.size + 1 + 1, o, none⟩) l0).trans (yf o)
    have szw1 := hb.size
    replace x0 := kept hb (block_lt x0) x0
    replace x1 := kept hb (block_lt x1) x1
    replace s0 := kept hb (block_lt s0) s0
    replace s1 := kept hb (block_lt s1) s1
    replace s2 := kept hb (block_lt s2) s2
    replace s3 := kept hb (block_lt s3) s3
    replace y0 := kept hb (block_lt y0) y0
    replace y1 := kept hb (block_lt y1) y1
    replace r := Lib.hid (r.out.bel hb)
    replace bb := Lib.hid (bb.out.trans (hb.mono bb.out.size))
    clear hb
    go_wp2_with fail
    refine bodyPost_ret (v := .tuple #[.agg #[.int .i64 0, .slice none 0 0], .bool false]) (by simp [results, Try.results40, go_sem, y0, y1]) rfl ?_
    exact ⟨⟨none, 0, rfl, own_nil _ _⟩, (bb.out.setCell (by simp; omega) _).setCell (by simp; omega) _⟩
  have hvv : validB W xs = true := by simp only [okB, Bool.and_eq_true] at ho; exact ho.1
  have hI0 := validB_W hvv
  obtain ⟨W, rfl⟩ := Int.eq_ofNat_of_zero_le (by omega : 0 ≤ W)
  have hI : Im W n xs := Im.of hvv hl.out
  have ho' := ho
  obtain ⟨A, B, C, D, rfl, rfl, rfl, rfl, h1, h2, h3, h4, hs⟩ := okB_im hI ho'
  rw [doOut_yes hI ho]
  have hw6 := hI.w6
  have hn6 := hI.l6
  have hD6 : D < 6 := by omega
  have hset := Lib.hid (fll_set hI h1 h2 h3 h4)
  obtain ⟨xa, ea, hxa⟩ := hI.nat (show A < n by omega)
  obtain ⟨xb, eb, hxb⟩ := hI.nat (show B < n by omega)
  have hab : (xs.set A (bits BinOp.xor IntKind.i64 (xs.getD A 0) (mskI C D))).getD B 0 = xs.getD B 0 := by
    rw [List.getD_eq_getElem?_getD, List.getElem?_set_ne (by omega), ← List.getD_eq_getElem?_getD]
  rw [hab, ea, eb] at hset
  replace ea := Lib.hid ea
  replace eb := Lib.hid eb
  replace hab := Lib.hid hab
  replace hI := Lib.hid hI
  clear ho' hs hvv hI0
  obtain ⟨b, off, rfl, hrc⟩ := r.out.2.resolve_left (by omega)
  go_enter Try.func40, Try.ntmps40
  go_wp2_with fail
  rw [← hW0]
  clear hW0
  refine (swok_impl _ _ _ _ xs _ _ _ _ _ r.out hm).mono ?_
  rintro e w1 ⟨rfl, hb⟩
  rw [ho]
  clear ho hrc
  replace yf : ∀ o, w1.frozen? ⟨w.heap.size + 1 + 1, o, none⟩ = false := fun o => (hb.frozen (p := ⟨w.heap.size + 1 + 1, o, none⟩) l0).trans (yf o)
  have szw1 := hb.size
  replace x0 := kept hb (block_lt x0) x0
  replace x1 := kept hb (block_lt x1) x1
  replace s0 := kept hb (block_lt s0) s0
  replace s1 := kept hb (block_lt s1) s1
  replace s2 := kept hb (block_lt s2) s2
  replace s3 := kept hb (block_lt s3) s3
  replace y0 := kept hb (block_lt y0) y0
  replace y1 := kept hb (block_lt y1) y1
  replace r := Lib.hid (r.out.bel hb)
  replace bb := Lib.hid (bb.out.trans (hb.mono bb.out.size))
  clear hb
  obtain ⟨b', off', e, hrc⟩ := r.out.2.resolve_left (show n ≠ 0 by omega)
  simp only [Option.some.injEq, Addr.mk.injEq, and_true] at e
  obtain ⟨rfl, rfl⟩ := e
  go_wp2_with fail
  refine (icopy_any W _ n cap xs _ r.out (by omega) (by omega)).mono ?_
  rintro e w2 ⟨⟨ac, cc, rfl, ho⟩, hb2⟩
  obtain ⟨g, rfl, hg⟩ : ∃ g, ac = some ⟨g, 0, none⟩ ∧ w1.heap.size ≤ g := by
    rcases ho.cases with ⟨_, h0, _⟩ | ⟨g, rfl, hg, _⟩
    · omega
    · exact ⟨g, rfl, hg⟩
  have hD := Lib.hid (DoAt.of1 (Wb := W) s0 s1 s2 s3 y0 y1 yf bb.out (by omega) hb2 hg ho)
  clear x0 x1 s0 s1 s2 s3 y0 y1 yf r bb hrc ho hb2 hg
  go_upto_region 4 with fail
  obtain ⟨wc, hwc⟩ : ∃ wc, w2.alloc (.cells #[.int .i64 W, .slice (some ⟨g, 0, none⟩) n cc] 35) = wc := ⟨_, rfl⟩
  rw [hwc] at hD ⊢
  clear hwc
  generalize w2.heap.size = k at hD ⊢
  obtain ⟨xA, hxA⟩ : ∃ z, bits BinOp.xor IntKind.i64 ((xa : Nat) : Int) (mskI C D) = z := ⟨_, rfl⟩
  obtain ⟨xB, hxB⟩ : ∃ z, bits BinOp.xor IntKind.i64 ((xb : Nat) : Int) (mskI C D) = z := ⟨_, rfl⟩
  rw [hxA, hxB] at hset
  have c0 : wc.cell? ⟨g, A, none⟩ = some (.int .i64 xa) := by rw [← ea.out]; exact own_cell hD.out.own (by omega)
  have cf := hD.out.own.frozen A
  have b1 := hD.out.b1
  have s0 := hD.out.s0
  have s1 := hD.out.s1
  have s2 := hD.out.s2
  have s3 := hD.out.s3
  have lg := block_lt c0
  have lk := block_lt b1
  have ls := block_lt s0
  simp only at lg lk ls
  have a0 : (0 : Int) ≤ (A : Int) := Int.natCast_nonneg _
  have an : (A : Int) < (n : Int) := by omega
  go_upto_region 5 with fail
  go_cut [] (fun wx => Hid (DoAt w wx k g W n cc A B C D (xs.set A xA)))
  case first =>
    go_wp2_with fail
    go_region_law (first | ((go_simp; go_at_call 79; (with_reducible refine (columns_any _ _ C D _ h3 hD6).mono ?_); rintro e w2 ⟨rfl, hb2⟩; have hb2' : Below wc.heap.size wc w2 := (((Below.refl _ _).drew).trans (hb2.mono (Nat.le_refl _))); have c0 := kept hb2' lg c0; have cf := (hb2'.frozen (p := ⟨g, A, none⟩) lg).trans cf; have b1 := kept hb2' lk b1; have s0 := kept hb2' ls s0; have s1 := kept hb2' ls s1; have s2 := kept hb2' ls s2; have s3 := kept hb2' ls s3)))
    all_goals go_wp2_with fail
    all_goals go_meet
    all_goals exact (hD.out.move hb2').set A xA
  case rest =>
    clear c0 cf b1 s0 s1 s2 s3 lg lk ls hD
    have hD := hcut
    have eb2 : Hid ((xs.set A xA).getD B 0 = (xb : Int)) := by
      have e := eb.out
      show (xs.set A xA).getD B 0 = (xb : Int)
      rw [List.getD_eq_getElem?_getD, List.getElem?_set_ne (by omega), ← List.getD_eq_getElem?_getD]; exact e
    have c0 : wc.cell? ⟨g, B, none⟩ = some (.int .i64 xb) := by rw [← eb2.out]; exact own_cell hD.out.own (by omega)
    have cf := hD.out.own.frozen B
    have b1 := hD.out.b1
    have s0 := hD.out.s0
    have s1 := hD.out.s1
    have s2 := hD.out.s2
    have s3 := hD.out.s3
    have lg := block_lt c0
    have lk := block_lt b1
    have ls := block_lt s0
    simp only at lg lk ls
    have a0 : (0 : Int) ≤ (B : Int) := Int.natCast_nonneg _
    have an : (B : Int) < (n : Int) := by omega
    go_upto_region 6 with fail
    go_cut [] (fun wx => Hid (DoAt w wx k g W n cc A B C D ((xs.set A xA).set B xB)))
    case first =>
      go_wp2_with fail
      go_region_law (first | ((go_simp; go_at_call 79; (with_reducible refine (columns_any _ _ C D _ h3 hD6).mono ?_); rintro e w2 ⟨rfl, hb2⟩; have hb2' : Below wc.heap.size wc w2 := (((Below.refl _ _).drew).trans (hb2.mono (Nat.le_refl _))); have c0 := kept hb2' lg c0; have cf := (hb2'.frozen (p := ⟨g, B, none⟩) lg).trans cf; have b1 := kept hb2' lk b1; have s0 := kept hb2' ls s0; have s1 := kept hb2' ls s1; have s2 := kept hb2' ls s2; have s3 := kept hb2' ls s3)))
      all_goals go_wp2_with fail
      all_goals go_meet
      all_goals exact (hD.out.move hb2').set B xB
    case rest =>
      clear c0 cf b1 s0 s1 s2 s3 lg lk ls hD
      have hD := hcut
      clear hcut
      rw [hset.out] at hD
      have b0 := hD.out.b0
      have b1 := hD.out.b1
      have y0 := hD.out.y0
      have y1 := hD.out.y1
      have yf := hD.out.yf
      go_wp2_with fail
      refine bodyPost_ret (v := .tuple #[.agg #[.int .i64 W, .slice (some ⟨g, 0, none⟩) n cc], .bool true]) (by simp [results, Try.results40, go_sem, y0, y1]) rfl ?_
      refine ⟨⟨some ⟨g, 0, none⟩, cc, by rw [fll_len], ?_⟩, (hD.out.bel.setCell (by simp; omega) _).setCell (by simp; omega) _⟩
      show OwnI _ _ _ (flL xs W n A B C D).length _ (flL xs W n A B C D)
      rw [fll_len]
      exact ((hD.out.own.store (show w.heap.size + 1 + 1 < w.heap.size + 3 by omega) _).store (show w.heap.size + 1 + 1 < w.heap.size + 3 by omega) _).mono (by omega)
end Go.Proofs.Ytemmfnlnhekclaa

namespace Go.Proofs.Ytemmfnlnhekclaa
set_option maxRecDepth 100000
open Go.RowKit
attribute [local go_sem] Oper.semAt_some

/-- What a round of AppendSeq may turn: the box of its slice, and the slice. -/
def AM (n : Nat) (k : Nat) (o : Obj) : Prop := k = n ∨ (n ≤ k ∧ ∃ cs fr, o = .cells cs 48 fr)
def AI (w : World) (pre : List SwT) (V : World) : Prop := (∃ v, Boxed V w.heap.size 103 v ∧ V.ownsRow w.heap.size 48 4 v pre.length ((flatS pre).map (Value.int .i64))) ∧ Below w.heap.size w V
theorem ai_stays (w : World) : Stays (w.heap.size + 1) (AI w) := fun pre A C hi hs => by
  obtain ⟨⟨v, hb, hr⟩, hB⟩ := hi
  exact ⟨⟨v, hs.fbox hb, hs.frow hr⟩, stays_below (β := Unit) (by omega) (Nat.le_refl _) () _ _ hB hs⟩
def swObj (x : SwT) : Obj := .cells #[.int .i64 x.1, .int .i64 x.2.1, .int .i64 x.2.2.1, .int .i64 x.2.2.2] 48
theorem swx_cells {V : World} {b : Nat} {x : SwT} (h : V.heap[b]? = some (swObj x)) : V.cell? ⟨b, 0, none⟩ = some (.int .i64 x.1) ∧ V.cell? ⟨b, 1, none⟩ = some (.int .i64 x.2.1) ∧ V.cell? ⟨b, 2, none⟩ = some (.int .i64 x.2.2.1) ∧ V.cell? ⟨b, 3, none⟩ = some (.int .i64 x.2.2.2) := by
  simp [World.cell?, h, swObj]

theorem am_old {n k : Nat} {o : Obj} (h : k < n) : ¬ AM n k o := fun hm => by rcases hm with h1 | ⟨h1, _⟩ <;> omega

/-- The switches of an image that may not be valid. -/
def listS (W : Int) (xs : List Int) : List SwT := if validB W xs = true then swL (cellOf xs) W.toNat xs.length else []

end Go.Proofs.Ytemmfnlnhekclaa

namespace Go.Proofs.Ytemmfnlnhekclaa
set_option maxRecDepth 100000
open Go.RowKit
attribute [local go_sem] Oper.semAt_some

/-- What doing the first switch gives. -/
def firstOut (W : Int) (xs : List Int) : Out := match listS W xs with
  | [] => .no
  | s :: _ => ⟨true, W, flL xs W.toNat xs.length s.1 s.2.1 s.2.2.1 s.2.2.2⟩
theorem firstOut_nil {W : Int} {xs : List Int} (h : listS W xs = []) : firstOut W xs = .no := by unfold firstOut; rw [h]
theorem firstOut_cons {W : Int} {xs : List Int} {s : SwT} {l : List SwT} (h : listS W xs = s :: l) : firstOut W xs = ⟨true, W, flL xs W.toNat xs.length s.1 s.2.1 s.2.2.1 s.2.2.2⟩ := by unfold firstOut; rw [h]

theorem Spare.fblock {m : Nat} {A B : World} (h : Spare (Free m) A B) {p : Addr} {v : Value} (hc : A.cell? p = some v) : B.heap[p.block]? = A.heap[p.block]? := by
  obtain ⟨o, ho, hi⟩ := cells_of_cell hc
  exact (h.same _ _ ho fun hf => by have := hf.2; rw [hi] at this; cases this).trans ho.symm
/-- Ahead of the first switch: the boxes of the image and of the two results. -/
structure FA (w V : World) (W : Int) (n cap : Nat) (a : Option Addr) (xs : List Int) : Prop where
  x0 : V.cell? ⟨w.heap.size, 0, none⟩ = some (.int .i64 W)
  x1 : V.cell? ⟨w.heap.size, 1, none⟩ = some (.slice a n cap)
  y0 : V.cell? ⟨w.heap.size + 1, 0, none⟩ = some (.int .i64 0)
  y1 : V.cell? ⟨w.heap.size + 1, 1, none⟩ = some (.slice none 0 0)
  yf : ∀ o, V.frozen? ⟨w.heap.size + 1, o, none⟩ = false
  z0 : V.cell? ⟨w.heap.size + 1 + 1, 0, none⟩ = some (.bool false)
  zf : V.frozen? ⟨w.heap.size + 1 + 1, 0, none⟩ = false
  row : Row V a n xs
  bel : Below w.heap.size w V
theorem FA.free {w A B : World} {W : Int} {n cap : Nat} {a : Option Addr} {xs : List Int} {m : Nat} (h : FA w A W n cap a xs) (hs : Spare (Free m) A B) (hm : w.heap.size ≤ m) : FA w B W n cap a xs :=
  ⟨hs.fcell h.x0, hs.fcell h.x1, hs.fcell h.y0, hs.fcell h.y1, fun o => (World.frozen?_of_block (a := ⟨w.heap.size + 1, o, none⟩) (hs.fblock (p := ⟨w.heap.size + 1, 0, none⟩) h.y0)).trans (h.yf o), hs.fcell h.z0, (hs.ffrozen h.z0).trans h.zf, hs.srow h.row, stays_below (β := Unit) hm (Nat.le_refl _) () _ _ h.bel hs⟩
theorem FA.move {w A B : World} {W : Int} {n cap : Nat} {a : Option Addr} {xs : List Int} (h : FA w A W n cap a xs) (hb : Below A.heap.size A B) : FA w B W n cap a xs :=
  h.free (m := w.heap.size) (Spare.below hb (Nat.le_refl _)) (Nat.le_refl _)

/-- Behind it: the results. -/
structure FB (w V : World) (W : Int) (m c : Nat) (a : Option Addr) (ys : List Int) : Prop where
  y0 : V.cell? ⟨w.heap.size + 1, 0, none⟩ = some (.int .i64 W)
  y1 : V.cell? ⟨w.heap.size + 1, 1, none⟩ = some (.slice a m c)
  z0 : V.cell? ⟨w.heap.size + 1 + 1, 0, none⟩ = some (.bool true)
  own : OwnI V w.heap.size a m c ys
  bel : Below w.heap.size w V
theorem FB.free {w A B : World} {W : Int} {m c : Nat} {a : Option Addr} {ys : List Int} {k : Nat} (h : FB w A W m c a ys) (hs : Spare (Free k) A B) (hm : w.heap.size ≤ k) : FB w B W m c a ys :=
  ⟨hs.fcell h.y0, hs.fcell h.y1, hs.fcell h.z0, hs.frow h.own, stays_below (β := Unit) hm (Nat.le_refl _) () _ _ h.bel hs⟩

theorem listS_im {W : Int} {n : Nat} {xs : List Int} (hl : xs.length = n) {s : SwT} (h : s ∈ listS W xs) : ∃ W' : Nat, W = W' ∧ Im W' n xs ∧ s.1 < s.2.1 ∧ s.2.1 < n ∧ s.2.2.1 < s.2.2.2 ∧ s.2.2.2 < W' ∧ swC (cellOf xs) s.1 s.2.1 s.2.2.1 s.2.2.2 = true := by
  unfold listS at h
  split at h
  · rename_i hv
    have h1 := validB_W hv
    obtain ⟨W, rfl⟩ := Int.eq_ofNat_of_zero_le (by omega : 0 ≤ W)
    rw [hl, Int.toNat_natCast] at h
    have hm := swl_mem.1 (show (s.1, s.2.1, s.2.2.1, s.2.2.2) ∈ swL (cellOf xs) W n from h)
    exact ⟨W, rfl, Im.of hv hl, hm.1, hm.2.1, hm.2.2.1, hm.2.2.2.1, hm.2.2.2.2⟩
  · simp at h

theorem set3 {V : World} {b : Nat} {u0 u1 u2 : Value} (v0 v1 v2 : Value) (h0 : V.cell? ⟨b + 1, 0, none⟩ = some u0) (h1 : V.cell? ⟨b + 1, 1, none⟩ = some u1) (h2 : V.cell? ⟨b + 1 + 1, 0, none⟩ = some u2) :
    (((V.setCell ⟨b + 1, 0, none⟩ v0).setCell ⟨b + 1, 1, none⟩ v1).setCell ⟨b + 1 + 1, 0, none⟩ v2).cell? ⟨b + 1, 0, none⟩ = some v0 ∧ (((V.setCell ⟨b + 1, 0, none⟩ v0).setCell ⟨b + 1, 1, none⟩ v1).setCell ⟨b + 1 + 1, 0, none⟩ v2).cell? ⟨b + 1, 1, none⟩ = some v1 ∧ (((V.setCell ⟨b + 1, 0, none⟩ v0).setCell ⟨b + 1, 1, none⟩ v1).setCell ⟨b + 1 + 1, 0, none⟩ v2).cell? ⟨b + 1 + 1, 0, none⟩ = some v2 := by
  have e1 : (V.setCell ⟨b + 1, 0, none⟩ v0).cell? ⟨b + 1, 1, none⟩ = some u1 := by rw [World.cell?_setCell_other _ _ _ _ (by simp)]; exact h1
  have e2 : ((V.setCell ⟨b + 1, 0, none⟩ v0).setCell ⟨b + 1, 1, none⟩ v1).cell? ⟨b + 1 + 1, 0, none⟩ = some u2 := by
    rw [World.cell?_setCell_other _ _ _ _ (by simp), World.cell?_setCell_other _ _ _ _ (by simp)]; exact h2
  refine ⟨?_, ?_, World.cell?_setCell_same _ _ _ e2⟩
  · rw [World.cell?_setCell_other _ _ _ _ (by simp), World.cell?_setCell_other _ _ _ _ (by simp)]; exact World.cell?_setCell_same _ _ _ h0
  · rw [World.cell?_setCell_other _ _ _ _ (by simp)]; exact World.cell?_setCell_same _ _ _ e1
theorem bel3 {w V : World} {v0 v1 v2 : Value} (h : Below w.heap.size w V) : Below w.heap.size w (((V.setCell ⟨w.heap.size + 1, 0, none⟩ v0).setCell ⟨w.heap.size + 1, 1, none⟩ v1).setCell ⟨w.heap.size + 1 + 1, 0, none⟩ v2) :=
  ((h.setCell (by simp) _).setCell (by simp) _).setCell (by simp; omega) _

end Go.Proofs.Ytemmfnlnhekclaa
