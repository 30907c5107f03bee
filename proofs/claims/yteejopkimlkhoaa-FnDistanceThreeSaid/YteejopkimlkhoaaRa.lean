/-
  Loops over functions: what a round and the function that gives its elements promise each other, and the law of the statement, in a round of another loop or not.
-/
import Derived.Test.YteejopkimlkhoaaA
import Derived.RangeFuncNested
import Derived.RangeFuncLeaves
import Derived.RangeFuncBound
import Derived.RangeFuncCalls
import Derived.Shelf.Abstract
import Derived.Shelf.RegionOpen
import Derived.OwnWalkIn
import Derived.TacticsInMore
import Derived.LoopNIn
import Derived.LoopIn
namespace Go.Proofs.Yteejopkimlkhoaa
set_option maxRecDepth 100000
open Go.RowKit

/-- Only blocks that M names have turned; new ones may be there. -/
structure Spare (M : Nat → Obj → Prop) (A B : World) : Prop where
  os : B.os = A.os
  tape : B.tape = A.tape
  output : B.output = A.output
  size : A.heap.size ≤ B.heap.size
  same : ∀ k o, A.heap[k]? = some o → ¬ M k o → B.heap[k]? = some o

variable {M M' : Nat → Obj → Prop} {A B C : World}
theorem Spare.refl (M : Nat → Obj → Prop) (A : World) : Spare M A A := ⟨rfl, rfl, rfl, Nat.le_refl _, fun _ _ h _ => h⟩
theorem Spare.trans (h : Spare M A B) (k : Spare M B C) : Spare M A C :=
  ⟨k.os.trans h.os, k.tape.trans h.tape, k.output.trans h.output, Nat.le_trans h.size k.size, fun i o hi hn => k.same i o (h.same i o hi hn) hn⟩
theorem Spare.mono (h : Spare M A B) (hm : ∀ k o, M k o → M' k o) : Spare M' A B :=
  ⟨h.os, h.tape, h.output, h.size, fun i o hi hn => h.same i o hi fun e => hn (hm _ _ e)⟩
theorem heap_lt {A : World} {k : Nat} {o : Obj} (h : A.heap[k]? = some o) : k < A.heap.size := (Array.getElem?_eq_some_iff.1 h).1
theorem Spare.below {n : Nat} (h : Below n A B) (hn : A.heap.size ≤ n) : Spare M A B :=
  ⟨h.os, h.tape, h.output, h.size, fun i _ hi _ => (h.block i (Nat.lt_of_lt_of_le (heap_lt hi) hn)).trans hi⟩
theorem Spare.alloc (h : Spare M A B) (o : Obj) : Spare M A (B.alloc o) := h.trans (Spare.below ((Below.refl _ _).alloc (Nat.le_refl _) o) (Nat.le_refl _))
theorem Spare.drew (h : Spare M A B) : Spare M A B.drew := ⟨h.os, h.tape, h.output, h.size, h.same⟩
theorem Spare.put (h : Spare M A B) {l : Nat} {o : Obj} (o' : Obj) (hl : B.heap[l]? = some o) (hm : A.heap.size ≤ l ∨ M l o) : Spare M A (B.putObj l o') :=
  ⟨h.os, h.tape, h.output, by simpa using h.size, fun i oi hi hn => by
    have e := h.same i oi hi hn
    by_cases q : i = l
    · subst q
      rcases hm with hm | hm
      · have := heap_lt hi; omega
      · rw [hl] at e; cases e; exact absurd hm hn
    · exact (World.putObj_heap_other q).trans e⟩
theorem Spare.set (h : Spare M A B) {p : Addr} (v : Value) (hm : A.heap.size ≤ p.block ∨ ∀ o, B.heap[p.block]? = some o → M p.block o) : Spare M A (B.setCell p v) :=
  ⟨h.os, h.tape, h.output, by have := h.size; simpa [World.setCell] using this, fun i oi hi hn => by
    have e := h.same i oi hi hn
    by_cases q : i = p.block
    · subst q
      rcases hm with hm | hm
      · have := heap_lt hi; omega
      · exact absurd (hm _ e) hn
    · exact (Below.heap_setCell _ _ _ _ q).trans e⟩
theorem Spare.grown {row : Option Nat} (h : Spare M A B) (hg : B.grownBy C row) (hm : ∀ k o, row = some k → B.heap[k]? = some o → A.heap.size ≤ k ∨ M k o) : Spare M A C :=
  ⟨hg.os.trans h.os, hg.tape.trans h.tape, hg.output.trans h.output, Nat.le_trans h.size hg.size, fun i oi hi hn => by
    have e := h.same i oi hi hn
    refine (hg.block i (heap_lt e) fun q => ?_).trans e
    rcases hm i oi q.symm e with hm | hm
    · have := heap_lt hi; omega
    · exact absurd hm hn⟩
theorem Spare.cell (h : Spare M A B) {p : Addr} {v : Value} (hc : A.cell? p = some v) (hn : ∀ o, A.heap[p.block]? = some o → o.isCells = true → ¬ M p.block o) : B.cell? p = some v := by
  obtain ⟨o, ho, hi⟩ := cells_of_cell hc
  exact (World.cell?_of_block ((h.same _ _ ho (hn o ho hi)).trans ho.symm)).trans hc

/-- What a function that gives elements may turn by itself: blocks of its own that hold no cells. -/
def Free (n : Nat) (k : Nat) (o : Obj) : Prop := n ≤ k ∧ o.isCells = false
theorem Free.mono {n m k : Nat} {o : Obj} (h : Free m k o) (hn : n ≤ m) : Free n k o := ⟨Nat.le_trans hn h.1, h.2⟩
theorem Spare.fcell {n : Nat} (h : Spare (Free n) A B) {p : Addr} {v : Value} (hc : A.cell? p = some v) : B.cell? p = some v :=
  h.cell hc fun _ _ hi hf => by have := hf.2; rw [hi] at this; cases this
theorem Spare.ffrozen {n : Nat} (h : Spare (Free n) A B) {p : Addr} {v : Value} (hc : A.cell? p = some v) : B.frozen? p = A.frozen? p := by
  obtain ⟨o, ho, hi⟩ := cells_of_cell hc
  exact World.frozen?_of_block ((h.same _ _ ho fun hf => by have := hf.2; rw [hi] at this; cases this).trans ho.symm)
theorem Spare.fbox {n b : Nat} {t : TypeId} {v : Value} (h : Spare (Free n) A B) (hc : Boxed A b t v) : Boxed B b t v := h.same _ _ hc fun hf => by cases hf.2
theorem Spare.frow {n : Nat} (h : Spare (Free n) A B) {base : Nat} {e : TypeId} {size : Nat} {v : Value} {m : Nat} {xs : List Value} (hr : A.ownsRow base e size v m xs) : B.ownsRow base e size v m xs := by
  refine ⟨hr.1, hr.2.imp id ?_⟩
  rintro ⟨g, cap, cur, e1, e2, e3, r⟩
  exact ⟨g, cap, cur, e1, e2, h.same _ _ e3 (fun hf => by cases hf.2), r⟩
/-- It does not mind the steps of the function that gives elements. -/
def Stays {β : Type} (n : Nat) (I : β → World → Prop) : Prop := ∀ s A B, I s A → Spare (Free n) A B → I s B
theorem Stays.mono {β : Type} {n m : Nat} {I : β → World → Prop} (h : Stays n I) (hn : n ≤ m) : Stays m I := fun s A B hi hs => h s A B hi (hs.mono fun _ _ hf => hf.mono hn)

/-- How the body of a round may be left. -/
def rpost {α : Type} (M : Nat → Obj → Prop) (I : List α → World → Prop) (Ix : Code → World → Prop) (xs : List α) (W : World) : Exit → Act → World → Prop
  | .normal, _, W' => Spare M W W' ∧ I xs W'
  | .ret, _, W' => Spare M W W' ∧ Ix .ret W'
  | .exit id, _, W' => Spare M W W' ∧ Ix (.exit id) W'
  | .goto t, _, W' => Spare M W W' ∧ Ix (.goto t) W'
  | .panic _, _, _ => False
  | .outgrown, _, _ => False

/-- The function gives the elements of xs in their order to rounds that turn what M names alone. -/
def Deals {α : Type} (P : Program) (g : Nat) (lb : Array Value) (encs : α → Array Value) (xs : List α) (M : Nat → Obj → Prop) (W : World) : Prop :=
  ∀ (l : Nat) (J : List α → World → Prop) (Jx : World → Prop), Stays W.heap.size J → Stays W.heap.size (fun (_ : Unit) => Jx) →
    (∀ pre x post W1, xs = pre ++ x :: post → J pre W1 → YieldAt Fence.wide 3 P l (encs x) W1 fun e W' => Spare M W1 W' ∧ ((e = .returned (.bool true) ∧ J (pre ++ [x]) W') ∨ (e = .returned (.bool false) ∧ Jx W'))) →
    J [] W →
    CallsIn Fence.wide 3 P g (#[.func (.yield l) #[] #[]] ++ lb) W fun e W' => (∃ v, e = .returned v) ∧ (J xs W' ∨ Jx W')

theorem calls_wide {n m : Nat} {P : Program} {f : FuncId} {args : Array Value} {w : World} {R : Ending → World → Prop} (h : CallsIn Fence.wide n P f args w R) : CallsIn Fence.wide m P f args w R :=
  callsIn_wide.2 (callsIn_wide.1 h)
theorem round_wide {n m : Nat} {P : Program} {l : Nat} {f : FuncId} {tmps : Array Value} {assign body : Code} {w : World} {R : Ending → World → Prop} (h : RoundIn Fence.wide n P l f tmps assign body w R) : RoundIn Fence.wide m P l f tmps assign body w R :=
  ⟨h.1, fun c cs _ => h.2 c cs (room_wide _)⟩


variable {α : Type} {P : Program} {ps : Array Tmp} {assign body : Code}

/-- One round, from the loop's record to the record. -/
theorem round_one {l n0 D : Nat} {rec : LoopState → Option Code → Loop} {fn : FuncId} {tmps : Array Value}
    (hrec : rec = fun st pe => { state := st, pending := pe, fn, tmps := tmps, params := ps, assign, body, defers := D })
    (hM : ∀ o, M l o → o.isCells = true) (hl0 : n0 ≤ l) {I : List α → World → Prop} {Ix : Code → World → Prop} (hI : Stays n0 I) (hIx : ∀ c, Stays n0 (fun (_ : Unit) => Ix c))
    {pre : List α} {x : α} {args : Array Value} (hps : args.size = ps.size) {Ax : Act → World → Prop} (hAx : ∀ a1, Stays n0 (fun (_ : Unit) => Ax a1)) {W : World}
    (hl : W.heap[l]? = some (.loop (rec .ready none)))
    (hassign : assign.wpIn (Fence.wide.inRound l) 3 P (Exit.then (fun a1 W1 => Spare M W W1 ∧ Ax a1 W1) (fun _ _ _ => False)) { tmps := (ps.zip args).foldl (fun t (p, v) => t.setIfInBounds p v) tmps, defers := [] } W)
    (hbody : ∀ a1 W1, (∃ r, W1.heap[l]? = some (.loop r)) → Ax a1 W1 → body.wpIn (Fence.wide.inRound l) 3 P (rpost M I Ix (pre ++ [x]) W1) a1 W1) :
    YieldAt Fence.wide 3 P l args W fun e W' => Spare (fun k o => M k o ∨ k = l) W W' ∧
      ((e = .returned (.bool true) ∧ I (pre ++ [x]) W' ∧ W'.heap[l]? = some (.loop (rec .ready none))) ∨ (e = .returned (.bool false) ∧ ∃ c, Ix c W' ∧ W'.heap[l]? = some (.loop (rec .done (some c))))) := by
  have hn : ∀ r, ¬ M l (.loop r) := fun r h => by have := hM _ h; cases this
  have hy := run_yield (P := P) (args := args) hl (by rw [hrec]; exact hps)
  rw [hrec] at hy
  refine ⟨fn, _, assign, body, hy, roundIn_of_wpIn trivial (wpIn_mono hassign ?_)⟩
  rintro e a1 W1 hp
  cases e with
  | normal =>
    obtain ⟨hs1, hx1⟩ := hp
    have hl1 := hs1.same _ _ hl (hn _)
    refine ⟨_, run_beginRound hl1 (by rw [hrec]), ?_⟩
    have hs2 : Spare (fun k o => M k o ∨ k = l) W (W1.putObj l (.loop { rec .ready none with state := .busy })) := (hs1.mono fun _ _ h => .inl h).put _ hl1 (.inr (.inr rfl))
    have hx2 := hAx a1 () W1 _ hx1 ((Spare.refl _ _).put (.loop { rec .ready none with state := .busy }) hl1 (.inr ⟨hl0, rfl⟩))
    have hl2 : (W1.putObj l (.loop { rec .ready none with state := .busy })).heap[l]? = some (.loop { rec .ready none with state := .busy }) := World.putObj_heap_same (heap_lt hl1)
    generalize W1.putObj l (.loop { rec .ready none with state := .busy }) = W2 at hs2 hx2 hl2
    refine wpIn_mono (hbody a1 W2 ⟨_, hl2⟩ hx2) ?_
    have fin : ∀ (jump : Option Code) (W3 : World), Spare M W2 W3 → ∃ W4, (Instr.endRound l jump).run P W3 = .ok (.bool jump.isNone) W4 ∧ W4.heap[l]? = some (.loop (rec (if jump.isNone then .ready else .done) jump)) ∧
        Spare (fun k o => M k o ∨ k = l) W W4 ∧ Spare (Free n0) W3 W4 := fun jump W3 h3 => by
      have hl3 := h3.same _ _ hl2 (hn _)
      refine ⟨W3.putObj l (.loop (rec (if jump.isNone then .ready else .done) jump)), ?_, World.putObj_heap_same (heap_lt hl3), (hs2.trans (h3.mono fun _ _ h => .inl h)).put _ hl3 (.inr (.inr rfl)), (Spare.refl _ _).put _ hl3 (.inr ⟨hl0, rfl⟩)⟩
      have := run_endRound (P := P) jump hl3
      rw [hrec] at this ⊢
      exact this
    rintro e a3 W3 hp
    cases e with
    | normal =>
      obtain ⟨h3, hi⟩ := hp
      obtain ⟨W4, hr, hl4, hs4, hf4⟩ := fin none W3 h3
      exact ⟨_, _, hr, hs4, .inl ⟨rfl, hI _ _ _ hi hf4, hl4⟩⟩
    | ret =>
      obtain ⟨h3, hi⟩ := hp
      obtain ⟨W4, hr, hl4, hs4, hf4⟩ := fin (some .ret) W3 h3
      exact ⟨_, _, hr, hs4, .inr ⟨rfl, _, hIx _ () _ _ hi hf4, hl4⟩⟩
    | exit id =>
      obtain ⟨h3, hi⟩ := hp
      obtain ⟨W4, hr, hl4, hs4, hf4⟩ := fin (some (.exit id)) W3 h3
      exact ⟨_, _, hr, hs4, .inr ⟨rfl, _, hIx _ () _ _ hi hf4, hl4⟩⟩
    | goto t =>
      obtain ⟨h3, hi⟩ := hp
      obtain ⟨W4, hr, hl4, hs4, hf4⟩ := fin (some (.goto t)) W3 h3
      exact ⟨_, _, hr, hs4, .inr ⟨rfl, _, hIx _ () _ _ hi hf4, hl4⟩⟩
    | panic ch => exact hp.elim
    | outgrown => exact hp.elim
  | ret => exact hp.elim
  | exit id => exact hp.elim
  | goto t => exact hp.elim
  | panic ch => exact hp.elim
  | outgrown => exact hp.elim

variable {g : Operand} {Q : Exit → Act → World → Prop} {a : Act} {w : World} {n gf : Nat} {lb : Array Value} {encs : α → Array Value} {I : List α → World → Prop} {Ix : Code → World → Prop} {Ax : List α → α → Act → World → Prop}

/-- The statement, outside of any round. -/
theorem range_out (hg : a.eval g = .func (.func gf) #[] lb) (eg : ∀ args w, (callFunc gf args).run P w = .ok (.enter gf args) w) (hps : ∀ x, (encs x).size = ps.size)
    (xs : List α) (hM : ∀ k o, w.heap.size ≤ k → M k o → o.isCells = true) (hseq : ∀ W, Below w.heap.size w W → Deals P gf lb encs xs (fun k o => M k o ∨ (w.heap.size ≤ k ∧ k < W.heap.size)) W)
    (hI : Stays w.heap.size I) (hIx : ∀ c, Stays w.heap.size (fun (_ : Unit) => Ix c)) (hAx : ∀ pre x a1, Stays w.heap.size (fun (_ : Unit) => Ax pre x a1)) (h0 : I [] w)
    (hassign : ∀ l pre x post W, xs = pre ++ x :: post → I pre W → w.heap.size < W.heap.size →
      assign.wpIn (Fence.wide.inRound l) 3 P (Exit.then (fun a1 W1 => Spare M W W1 ∧ Ax pre x a1 W1) (fun _ _ _ => False)) { tmps := (ps.zip (encs x)).foldl (fun t (p, v) => t.setIfInBounds p v) a.tmps, defers := [] } W)
    (hbody : ∀ l pre x post a1 W, xs = pre ++ x :: post → w.heap.size ≤ l → (∃ r, W.heap[l]? = some (.loop r)) → Ax pre x a1 W → body.wpIn (Fence.wide.inRound l) 3 P (rpost M I Ix (pre ++ [x]) W) a1 W)
    (hdone : ∀ D W, w.heap.size ≤ D → I xs W → W.heap[D]? = some (.deferred (some [])) → Q .normal { a with defers := { target := .collected D, args := #[] } :: a.defers } W)
    (hstop : ∀ D c W, w.heap.size ≤ D → Ix c W → W.heap[D]? = some (.deferred (some [])) → c.wpIn Fence.wide n P Q { a with defers := { target := .collected D, args := #[] } :: a.defers } W) :
    (Code.rangeFunc g ps assign body).wpIn Fence.wide n P Q a w := by
  refine wpIn_rangeFunc fun fn _ => ?_
  obtain ⟨rec, hrec⟩ : ∃ rec : LoopState → Option Code → Loop, rec = fun st pe => { state := st, pending := pe, fn, tmps := a.tmps, params := ps, assign, body, defers := w.heap.size } := ⟨_, rfl⟩
  obtain ⟨W1, hW1⟩ : ∃ W1, (w.alloc (.deferred (some []))).alloc (.loop (rec .ready none)) = W1 := ⟨_, rfl⟩
  have hz1 : W1.heap.size = w.heap.size + 2 := by rw [← hW1]; simp
  have hL1 : W1.heap[w.heap.size + 1]? = some (.loop (rec .ready none)) := by
    rw [← hW1]; have := World.alloc_heap_new (w.alloc (.deferred (some []))) (.loop (rec .ready none)); rwa [World.size_alloc] at this
  have hK1 : W1.heap[w.heap.size]? = some (.deferred (some [])) := by
    rw [← hW1]; exact (Below.heap_alloc _ _ _ (by simp)).trans (World.alloc_heap_new w _)
  have hb1 : Below w.heap.size w W1 := by rw [← hW1]; exact ((Below.refl _ w).alloc (Nat.le_refl _) _).alloc (by simp) _
  have hI1 : I [] W1 := hI _ _ _ h0 (Spare.below hb1 (Nat.le_refl _))
  refine ⟨w.heap.size + 1, [{ target := .collected w.heap.size, args := #[] }], W1, { target := .fn (.func gf) lb, args := #[.func (.yield (w.heap.size + 1)) #[] #[]] }, W1, gf,
    #[.func (.yield (w.heap.size + 1)) #[] #[]] ++ lb, W1, ?_, ?_, fun _ _ => trivial, ?_, fun h => by simp [Fence.wide] at h, ?_⟩
  · rw [← hW1, hrec]; exact run_enterLoop_outer _ _ _ _ _
  · simp only [resolve, hg]
    simp [go_sem]
  · simp [invoke, go_sem, eg]
  refine calls_wide ((hseq W1 hb1 (w.heap.size + 1)
    (fun pre W => I pre W ∧ W.heap[w.heap.size + 1]? = some (.loop (rec .ready none)) ∧ W.heap[w.heap.size]? = some (.deferred (some [])))
    (fun W => ∃ c, Ix c W ∧ W.heap[w.heap.size + 1]? = some (.loop (rec .done (some c))) ∧ W.heap[w.heap.size]? = some (.deferred (some [])))
    ?_ ?_ ?_ ⟨hI1, hL1, hK1⟩).mono ?_)
  · rintro pre A B ⟨hi, hl, hk⟩ hs
    exact ⟨hI _ _ _ hi (hs.mono fun _ _ h => h.mono (by omega)), hs.same _ _ hl (fun h => by have := h.1; omega), hs.same _ _ hk (fun h => by have := h.1; omega)⟩
  · rintro _ A B ⟨c, hi, hl, hk⟩ hs
    exact ⟨c, hIx c () _ _ hi (hs.mono fun _ _ h => h.mono (by omega)), hs.same _ _ hl (fun h => by have := h.1; omega), hs.same _ _ hk (fun h => by have := h.1; omega)⟩
  · rintro pre x post W e ⟨hi, hl, hk⟩
    refine (round_one hrec (fun o h => hM _ o (by omega) h) (by omega) hI hIx (hps x) (hAx pre x) hl (hassign _ pre x post W e hi (by have := heap_lt hl; omega)) (fun a1 W2 hr hx => hbody _ pre x post a1 W2 e (by omega) hr hx)).mono ?_
    rintro e' W' ⟨hs, hq⟩
    have hk' : W'.heap[w.heap.size]? = some (.deferred (some [])) := hs.same _ _ hk fun h => by
      rcases h with h | h
      · have := hM _ _ (Nat.le_refl _) h; cases this
      · omega
    refine ⟨hs.mono fun k o h => h.imp id fun h => by omega, ?_⟩
    rcases hq with ⟨rfl, hi, hl⟩ | ⟨rfl, c, hi, hl⟩
    · exact .inl ⟨rfl, hi, hl, hk'⟩
    · exact .inr ⟨rfl, c, hi, hl, hk'⟩
  · rintro e W2 ⟨⟨v, rfl⟩, (⟨hi, hl, hk⟩ | ⟨c, hi, hl, hk⟩)⟩
    · refine ⟨none, _, by have := run_endLoop (P := P) hl (by rw [hrec]; simp); rw [hrec] at this; exact this, hdone w.heap.size _ (Nat.le_refl _) (hI _ _ _ hi ((Spare.refl _ _).put _ hl (.inr ⟨by omega, rfl⟩))) ((World.putObj_heap_other (by omega)).trans hk)⟩
    · refine ⟨some c, _, by have := run_endLoop (P := P) hl (by rw [hrec]; simp); rw [hrec] at this; exact this, hstop w.heap.size c _ (Nat.le_refl _) (hIx c () _ _ hi ((Spare.refl _ _).put _ hl (.inr ⟨by omega, rfl⟩))) ((World.putObj_heap_other (by omega)).trans hk)⟩

/-- The statement, in a round of another loop. -/
theorem range_in {l₀ : Nat} (hl₀ : ∃ r, w.heap[l₀]? = some (.loop r)) (hg : a.eval g = .func (.func gf) #[] lb) (eg : ∀ args w, (callFunc gf args).run P w = .ok (.enter gf args) w) (hps : ∀ x, (encs x).size = ps.size)
    (xs : List α) (hM : ∀ k o, w.heap.size ≤ k → M k o → o.isCells = true) (hseq : ∀ W, Below w.heap.size w W → Deals P gf lb encs xs (fun k o => M k o ∨ (w.heap.size ≤ k ∧ k < W.heap.size)) W)
    (hI : Stays w.heap.size I) (hIx : ∀ c, Stays w.heap.size (fun (_ : Unit) => Ix c)) (hAx : ∀ pre x a1, Stays w.heap.size (fun (_ : Unit) => Ax pre x a1)) (h0 : I [] w)
    (hassign : ∀ l pre x post W, xs = pre ++ x :: post → I pre W → w.heap.size < W.heap.size →
      assign.wpIn (Fence.wide.inRound l) 3 P (Exit.then (fun a1 W1 => Spare M W W1 ∧ Ax pre x a1 W1) (fun _ _ _ => False)) { tmps := (ps.zip (encs x)).foldl (fun t (p, v) => t.setIfInBounds p v) a.tmps, defers := [] } W)
    (hbody : ∀ l pre x post a1 W, xs = pre ++ x :: post → w.heap.size ≤ l → (∃ r, W.heap[l]? = some (.loop r)) → Ax pre x a1 W → body.wpIn (Fence.wide.inRound l) 3 P (rpost M I Ix (pre ++ [x]) W) a1 W)
    (hdone : ∀ W, I xs W → Q .normal a W) (hstop : ∀ c W, Ix c W → c.wpIn (Fence.wide.inRound l₀) n P Q a W) :
    (Code.rangeFunc g ps assign body).wpIn (Fence.wide.inRound l₀) n P Q a w := by
  obtain ⟨r₀, hl₀⟩ := hl₀
  refine wpIn_rangeFunc fun fn _ => ?_
  obtain ⟨rec, hrec⟩ : ∃ rec : LoopState → Option Code → Loop, rec = fun st pe => { state := st, pending := pe, fn, tmps := a.tmps, params := ps, assign, body, defers := r₀.defers } := ⟨_, rfl⟩
  obtain ⟨W1, hW1⟩ : ∃ W1, w.alloc (.loop (rec .ready none)) = W1 := ⟨_, rfl⟩
  have hz1 : W1.heap.size = w.heap.size + 1 := by rw [← hW1]; simp
  have hL1 : W1.heap[w.heap.size]? = some (.loop (rec .ready none)) := by rw [← hW1]; exact World.alloc_heap_new w _
  have hb1 : Below w.heap.size w W1 := by rw [← hW1]; exact (Below.refl _ w).alloc (Nat.le_refl _) _
  have hI1 : I [] W1 := hI _ _ _ h0 (Spare.below hb1 (Nat.le_refl _))
  refine ⟨w.heap.size, [], W1, { target := .fn (.func gf) lb, args := #[.func (.yield w.heap.size) #[] #[]] }, W1, gf,
    #[.func (.yield w.heap.size) #[] #[]] ++ lb, W1, ?_, ?_, fun _ _ => trivial, ?_, fun h => by simp [Fence.wide] at h, ?_⟩
  · rw [← hW1, hrec]; exact run_enterLoop_inner hl₀ _ _ _ _ _
  · simp only [resolve, hg]
    simp [go_sem]
  · simp [invoke, go_sem, eg]
  refine CallsIn.inRound _ (calls_wide ((hseq W1 hb1 w.heap.size
    (fun pre W => I pre W ∧ W.heap[w.heap.size]? = some (.loop (rec .ready none)))
    (fun W => ∃ c, Ix c W ∧ W.heap[w.heap.size]? = some (.loop (rec .done (some c))))
    ?_ ?_ ?_ ⟨hI1, hL1⟩).mono ?_))
  · rintro pre A B ⟨hi, hl⟩ hs
    exact ⟨hI _ _ _ hi (hs.mono fun _ _ h => h.mono (by omega)), hs.same _ _ hl (fun h => by have := h.1; omega)⟩
  · rintro _ A B ⟨c, hi, hl⟩ hs
    exact ⟨c, hIx c () _ _ hi (hs.mono fun _ _ h => h.mono (by omega)), hs.same _ _ hl (fun h => by have := h.1; omega)⟩
  · rintro pre x post W e ⟨hi, hl⟩
    refine (round_one hrec (fun o h => hM _ o (by omega) h) (by omega) hI hIx (hps x) (hAx pre x) hl (hassign _ pre x post W e hi (heap_lt hl)) (fun a1 W2 hr hx => hbody _ pre x post a1 W2 e (by omega) hr hx)).mono ?_
    rintro e' W' ⟨hs, hq⟩
    refine ⟨hs.mono fun k o h => h.imp id fun h => by omega, ?_⟩
    rcases hq with ⟨rfl, hi, hl⟩ | ⟨rfl, c, hi, hl⟩
    · exact .inl ⟨rfl, hi, hl⟩
    · exact .inr ⟨rfl, c, hi, hl⟩
  · rintro e W2 ⟨⟨v, rfl⟩, (⟨hi, hl⟩ | ⟨c, hi, hl⟩)⟩
    · refine ⟨none, _, by have := run_endLoop (P := P) hl (by rw [hrec]; simp); rw [hrec] at this; exact this, hdone _ (hI _ _ _ hi ((Spare.refl _ _).put _ hl (.inr ⟨by omega, rfl⟩)))⟩
    · refine ⟨some c, _, by have := run_endLoop (P := P) hl (by rw [hrec]; simp); rw [hrec] at this; exact this, hstop c _ (hIx c () _ _ hi ((Spare.refl _ _).put _ hl (.inr ⟨by omega, rfl⟩)))⟩

end Go.Proofs.Yteejopkimlkhoaa

