/-
  The contracts of the laws' own small helpers: copies, comparisons, marks.
-/
import Derived.Test.YteadibgjieimkaaA
import Derived.OwnWalk
namespace Go.Proofs.Yteadibgjieimkaa
set_option maxRecDepth 100000
open Go.RowKit

theorem infoInt : (Try.prog.info? 3).map (fun i => (i.zero, i.size, i.bytes)) = some (some (.int .i64 0), 1, 8) := by kernel_rfl

/-- A slice of integers that the call owns: it starts at the head of a block from B on. -/
def OwnI (w : World) (B : Nat) (a : Option Addr) (len cap : Nat) (xs : List Int) : Prop :=
  w.ownsRow B 3 1 (.slice a len cap) len (xs.map (Value.int .i64))

theorem OwnI.len {w : World} {B : Nat} {a : Option Addr} {len cap : Nat} {xs : List Int} (h : OwnI w B a len cap xs) : xs.length = len := by
  have := h.1; simpa using this
theorem OwnI.cases {w : World} {B : Nat} {a : Option Addr} {len cap : Nat} {xs : List Int} (h : OwnI w B a len cap xs) : (a = none ∧ len = 0 ∧ cap = 0) ∨ ∃ g, a = some ⟨g, 0, none⟩ ∧ B ≤ g ∧ g < w.heap.size := by
  rcases h.2 with ⟨h1, _⟩ | ⟨g, c, cur, h1, h2, h3, _⟩
  · left; simpa using h1
  · right; simp only [Value.slice.injEq] at h1
    exact ⟨g, h1.1, h2, (Array.getElem?_eq_some_iff.1 h3).1⟩
theorem OwnI.row {w : World} {B : Nat} {a : Option Addr} {len cap : Nat} {xs : List Int} (h : OwnI w B a len cap xs) : Row w a len xs := by
  refine ⟨h.len, ?_⟩
  rcases h.cases with ⟨_, h2, _⟩ | ⟨g, rfl, _, _⟩
  · left; exact h2
  · right; refine ⟨g, 0, rfl, fun i hi => ?_⟩
    have hl := h.len
    rw [show 0 + i = i by omega, World.ownsRow.cellAt h i (by omega)]
    simp [show i < xs.length by omega]
theorem OwnI.frozen {w : World} {B g : Nat} {len cap : Nat} {xs : List Int} (h : OwnI w B (some ⟨g, 0, none⟩) len cap xs) (j : Nat) : w.frozen? ⟨g, j, none⟩ = false := World.ownsRow.frozenAt h j
theorem below_grown {w w' : World} (h : Below w.heap.size w w') (row : Option Nat) : w.grownBy w' row := ⟨h.os, h.tape, h.output, h.size, fun k hk _ => h.block k hk⟩
theorem OwnI.bel {w w' : World} {B : Nat} {a : Option Addr} {len cap : Nat} {xs : List Int} (h : OwnI w B a len cap xs) (hb : Below w.heap.size w w') : OwnI w' B a len cap xs := by
  refine World.ownsRow.kept h (below_grown hb none) ?_
  rcases h.cases with ⟨rfl, _, _⟩ | ⟨g, rfl, _, _⟩
  · left; rfl
  · right; simp [Value.ownBlock]
theorem OwnI.other {w w' : World} {B k : Nat} {a : Option Addr} {len cap : Nat} {xs : List Int} (h : OwnI w B a len cap xs) (hg : w.grownBy w' (some k)) (hk : k < B) : OwnI w' B a len cap xs := by
  refine World.ownsRow.kept h hg ?_
  rcases h.cases with ⟨rfl, _, _⟩ | ⟨g, rfl, hg, _⟩
  · left; rfl
  · right; simp [Value.ownBlock]; omega
theorem OwnI.store {w : World} {B : Nat} {a : Option Addr} {len cap : Nat} {xs : List Int} (h : OwnI w B a len cap xs) {p : Addr} (hp : p.block < B) (v : Value) : OwnI (w.setCell p v) B a len cap xs :=
  h.other (k := p.block) ⟨rfl, rfl, rfl, by simp [World.setCell], fun k _ hk => Below.heap_setCell _ _ _ _ (fun e => hk (by rw [e]))⟩ hp
theorem OwnI.mono {w : World} {B B' : Nat} {a : Option Addr} {len cap : Nat} {xs : List Int} (h : OwnI w B a len cap xs) (hB : B' ≤ B) : OwnI w B' a len cap xs := by
  obtain ⟨h1, h2⟩ := h
  refine ⟨h1, ?_⟩
  rcases h2 with h2 | ⟨g, c, cur, e, hg, r⟩
  · exact .inl h2
  · exact .inr ⟨g, c, cur, e, by omega, r⟩
theorem grown_set {w w' : World} {g j : Nat} {v : Value} (h : w.grownBy w' (some g)) : w.grownBy (w'.setCell ⟨g, j, none⟩ v) (some g) :=
  ⟨h.os, h.tape, h.output, by simpa [World.setCell] using h.size, fun k hk hn => (Below.heap_setCell _ _ _ _ (fun e => hn (by rw [e]))).trans (h.block k hk hn)⟩
theorem Row.bel {w w' : World} {a : Option Addr} {len : Nat} {xs : List Int} (h : Row w a len xs) (hb : Below w.heap.size w w') : Row w' a len xs := by
  obtain ⟨h1, h2⟩ := h
  refine ⟨h1, ?_⟩
  rcases h2 with h2 | ⟨b, off, rfl, hc⟩
  · left; exact h2
  · right; exact ⟨b, off, rfl, fun i hi => kept hb (block_lt (hc i hi)) (hc i hi)⟩
theorem OwnI.set {w : World} {B g : Nat} {len cap : Nat} {xs : List Int} (h : OwnI w B (some ⟨g, 0, none⟩) len cap xs) (j : Nat) (u : Int) :
    OwnI (w.setCell ⟨g, j, none⟩ (.int .i64 u)) B (some ⟨g, 0, none⟩) len cap (xs.set j u) := by
  unfold OwnI; rw [List.map_set]; exact (World.ownsRow.stored h j _).1

theorem Row.alloc {w : World} {a : Option Addr} {len : Nat} {xs : List Int} (h : Row w a len xs) (o : Obj) : Row (w.alloc o) a len xs := h.bel ((Below.refl _ _).alloc (Nat.le_refl _) o)
theorem Row.drewN {w : World} {a : Option Addr} {len : Nat} {xs : List Int} (h : Row w a len xs) (n : Nat) : Row (w.drewN n) a len xs := h.bel (below_drewN (Below.refl _ _) n)
theorem bcell {W w1 : World} {B : Nat} (hb : Below B W w1) : (∀ b o, b < B → w1.cell? ⟨b, o, none⟩ = W.cell? ⟨b, o, none⟩) ∧ (∀ b o, b < B → w1.frozen? ⟨b, o, none⟩ = W.frozen? ⟨b, o, none⟩) :=
  ⟨fun b o h => hb.cell (p := ⟨b, o, none⟩) h, fun b o h => hb.frozen (p := ⟨b, o, none⟩) h⟩
theorem fill_step {xs : List Int} {len k : Nat} (hl : xs.length = len) (hk : k < len) :
    (xs.take k ++ List.replicate (len - k) 0).set k (xs.getD k 0) = xs.take (k + 1) ++ List.replicate (len - (k + 1)) 0 := by
  apply List.ext_getElem?
  intro i
  have h1 : xs[k]? = some xs[k] := List.getElem?_eq_getElem (by omega)
  by_cases e : i = k
  · subst e
    rw [List.getElem?_set_self (by simp; omega), List.getElem?_append_left (by simp; omega), List.getElem?_take_of_lt (by omega), getD_elem (by omega), h1]
  · rw [List.getElem?_set_ne (by omega)]
    by_cases h : i < k
    · rw [List.getElem?_append_left (by simp; omega), List.getElem?_append_left (by simp; omega), List.getElem?_take_of_lt h, List.getElem?_take_of_lt (by omega)]
    · have e1 : (xs.take k).length = k := by rw [List.length_take]; omega
      have e2 : (xs.take (k + 1)).length = k + 1 := by rw [List.length_take]; omega
      rw [List.getElem?_append_right (by omega), List.getElem?_append_right (by omega), e1, e2, List.getElem?_replicate, List.getElem?_replicate]
      by_cases h2 : i < len
      · rw [if_pos (by omega), if_pos (by omega)]
      · rw [if_neg (by omega), if_neg (by omega)]

set_option maxHeartbeats 400000 in
theorem to_any (a : Option Addr) (len cap : Nat) (xs : List Int) (w : World) (h : Row w a len xs) (hm : len ≤ 1048576) :
    Calls Try.prog 40 #[.slice a len cap] w fun e w' => (∃ g, e = .returned (.slice (some ⟨g, 0, none⟩) len len) ∧ w.heap.size ≤ g ∧ OwnI w' w.heap.size (some ⟨g, 0, none⟩) len len xs) ∧ Below w.heap.size w w' := by
  obtain ⟨hl, hr⟩ := h
  obtain ⟨i0, hi, hz0, hz1, hz2⟩ := info_parts infoInt
  have hR := Lib.hid hr
  clear hr
  go_enter Try.func40, Try.ntmps40
  go_wp2_with ((refine wpList_make_full w rfl _ _ 23 rfl w.heap.size 3 i0 (.int .i64 0) 1 Try.underlying23 hi hz0 hz1 .i64 .i64 len len len rfl rfl rfl rfl ?_ ?_ (Nat.le_refl _) ?_))
  all_goals first | (rw [hz2]; omega) | (unfold maxLen; omega) | skip
  intro w1 ho hg
  have ho0 : OwnI w1 w.heap.size (some ⟨w.heap.size, 0, none⟩) len len (List.replicate len 0) := by
    unfold OwnI; simpa [toList_madeCells_one, List.map_replicate] using ho
  have hb1 : Below w.heap.size w w1 := (Below.refl _ _).grown hg (Nat.le_refl _) (fun k hk => by cases hk)
  clear ho hg
  go_wp2
  go_loopw [4] (fun i wr => ∃ k : Nat, k ≤ len ∧ i = .int .i64 k ∧ Below w.heap.size w wr ∧ OwnI wr w.heap.size (some ⟨w.heap.size, 0, none⟩) len len (xs.take k ++ List.replicate (len - k) 0)) (fun i _ => len - (intOf i).toNat)
  case atStart => exact ⟨0, Nat.zero_le _, rfl, hb1, by simpa using ho0⟩
  case round =>
    obtain ⟨k, hk, rfl, hbel, hown⟩ := hrel
    by_cases hlt : k < len
    · obtain ⟨b, off, rfl, hc⟩ := hR.out.resolve_left (by omega)
      have hck := kept hbel (block_lt (hc k hlt)) (hc k hlt)
      have hl2 := hown.len
      have hd : wr.cell? ⟨w.heap.size, k, none⟩ = some (.int .i64 ((xs.take k ++ List.replicate (len - k) 0).getD k 0)) := by
        rw [World.ownsRow.cellAt hown k (by omega), List.getElem?_map, List.getElem?_eq_getElem (by omega), getD_elem (by omega)]; rfl
      have hf := hown.frozen k
      have hs := hown.set k (xs.getD k 0)
      have e : (xs.take k ++ List.replicate (len - k) 0).set k (xs.getD k 0) = xs.take (k + 1) ++ List.replicate (len - (k + 1)) 0 := fill_step hl hlt
      rw [e] at hs
      generalize (xs.take k ++ List.replicate (len - k) 0).getD k 0 = z at hd
      clear e hl2 hc hb1 ho0
      have hs := Lib.hid hs
      have hown := Lib.hid hown
      go_wp2
      refine ⟨⟨k + 1, by omega, by go_num, hbel.setCell (Nat.le_refl _) _, ?_⟩, by simp [intOf]; omega⟩
      have := hs.out; rwa [getD_elem (by omega)] at this
    · have : k = len := by omega
      subst this
      have hown := Lib.hid hown
      clear hb1 ho0
      go_wp2
      go_ret
      have ho := hown.out
      rw [Nat.sub_self, List.take_of_length_le (by omega)] at ho
      exact ⟨⟨_, rfl, Nat.le_refl _, by simpa using ho⟩, hbel⟩

theorem row_at {w : World} {a : Option Addr} {len : Nat} {xs : List Int} (h : Row w a len xs) {k : Nat} (hk : k < len) : ∃ b off, a = some ⟨b, off, none⟩ ∧ w.cell? ⟨b, off + k, none⟩ = some (.int .i64 (xs.getD k 0)) := by
  obtain ⟨b, off, rfl, hc⟩ := h.2.resolve_left (by omega)
  exact ⟨b, off, rfl, hc k hk⟩

set_option maxHeartbeats 400000 in
/-- 'eqIntS' at two equal lists. -/
theorem eq_yes (a a' : Option Addr) (len cap cap' : Nat) (xs : List Int) (w : World) (h : Row w a len xs) (h' : Row w a' len xs) (hm : len ≤ 9223372036854775807) :
    Calls Try.prog 41 #[.slice a len cap, .slice a' len cap'] w fun e w' => e = .returned (.bool true) ∧ Below w.heap.size w w' := by
  have hR := Lib.hid h
  have hR' := Lib.hid h'
  clear h h'
  go_enter Try.func41, Try.ntmps41
  go_wp2
  go_loopw [5] (fun i wr => ∃ k : Nat, k ≤ len ∧ i = .int .i64 k ∧ Below w.heap.size w wr) (fun i _ => len - (intOf i).toNat)
  case atStart => exact ⟨0, Nat.zero_le _, rfl, Below.refl _ _⟩
  case round =>
    obtain ⟨k, hk, rfl, hbel⟩ := hrel
    by_cases hlt : k < len
    · obtain ⟨b, off, rfl, hc⟩ := row_at hR.out hlt
      obtain ⟨b', off', rfl, hc'⟩ := row_at hR'.out hlt
      have hc := kept hbel (block_lt hc) hc
      have hc' := kept hbel (block_lt hc') hc'
      go_wp2
      go_quiet (fail)
      go_wp2
      exact ⟨⟨k + 1, by omega, by go_num, below_drewN hbel _⟩, by simp [intOf]; omega⟩
    · have : k = len := by omega
      subst this
      go_wp2
      go_ret
      exact ⟨rfl, hbel⟩

set_option maxHeartbeats 400000 in
/-- 'sameInts' at two equal lists. -/
theorem same_yes (a a' : Option Addr) (len cap cap' : Nat) (xs : List Int) (w : World) (h : Row w a len xs) (h' : Row w a' len xs) (hm : len ≤ 9223372036854775807) :
    Calls Try.prog 22 #[.slice a len cap, .slice a' len cap'] w fun e w' => e = .returned (.bool true) ∧ Below w.heap.size w w' := by
  have hR := Lib.hid h
  have hR' := Lib.hid h'
  clear h h'
  go_enter Try.func22, Try.ntmps22
  go_wp2
  go_loopw [5] (fun i wr => ∃ k : Nat, k ≤ len ∧ i = .int .i64 k ∧ Below w.heap.size w wr) (fun i _ => len - (intOf i).toNat)
  case atStart => exact ⟨0, Nat.zero_le _, rfl, Below.refl _ _⟩
  case round =>
    obtain ⟨k, hk, rfl, hbel⟩ := hrel
    by_cases hlt : k < len
    · obtain ⟨b, off, rfl, hc⟩ := row_at hR.out hlt
      obtain ⟨b', off', rfl, hc'⟩ := row_at hR'.out hlt
      have hc := kept hbel (block_lt hc) hc
      have hc' := kept hbel (block_lt hc') hc'
      go_wp2
      go_quiet (fail)
      go_wp2
      exact ⟨⟨k + 1, by omega, by go_num, below_drewN hbel _⟩, by simp [intOf]; omega⟩
    · have : k = len := by omega
      subst this
      go_wp2
      go_ret
      exact ⟨rfl, hbel⟩

set_option maxHeartbeats 400000 in
/-- 'sameImage' at two equal images. -/
theorem sameImage_yes (W : Int) (a a' : Option Addr) (len cap cap' : Nat) (xs : List Int) (w : World) (h : Row w a len xs) (h' : Row w a' len xs) (hm : len ≤ 9223372036854775807) :
    Calls Try.prog 39 #[.agg #[.int .i64 W, .slice a len cap], .agg #[.int .i64 W, .slice a' len cap']] w fun e w' => e = .returned (.bool true) ∧ Below w.heap.size w w' := by
  go_enter Try.func39, Try.ntmps39
  go_wp2_with fail
  refine (same_yes _ _ _ _ _ xs _ ((h.alloc _).alloc _) ((h'.alloc _).alloc _) hm).mono ?_
  rintro e w1 ⟨rfl, hb⟩
  go_wp2
  go_ret
  exact ⟨rfl, (((Below.refl _ _).alloc (Nat.le_refl _) _).alloc (by simp) _).trans (hb.mono (by simp; omega))⟩

def marks (k : Int) : Nat → List Int
  | 0 => []
  | n + 1 => k :: marks (k + 1) n
theorem marks_len (n : Nat) : ∀ k, (marks k n).length = n := by
  induction n with
  | zero => intro k; rfl
  | succ n ih => intro k; simp [marks, ih]
theorem marks_get (n : Nat) : ∀ (k : Int) (i : Nat), i < n → (marks k n).getD i 0 = k + i := by
  induction n with
  | zero => intro k i hi; omega
  | succ n ih =>
    intro k i hi
    cases i with
    | zero => simp [marks]
    | succ i => simp only [marks, List.getD_cons_succ]; rw [ih (k + 1) i (by omega)]; omega
theorem mark_step {xs : List Int} {len j : Nat} {k : Int} (hl : xs.length = len) (hj : j < len) :
    ((marks k len).take j ++ xs.drop j).set j (k + j) = (marks k len).take (j + 1) ++ xs.drop (j + 1) := by
  have hm := marks_len len k
  have e1 : ((marks k len).take j).length = j := by rw [List.length_take]; omega
  rw [List.set_append_right _ _ (by omega), e1, Nat.sub_self, List.take_succ_eq_append_getElem (by omega), List.append_assoc]
  have : (marks k len)[j]'(by omega) = k + j := by rw [← marks_get len k j hj, getD_elem (by omega)]
  rw [this, List.drop_eq_getElem_cons (by omega : j < xs.length), List.set_cons_zero]
  rfl

set_option maxHeartbeats 400000 in
/-- 'markIntS' over a slice that is owned. -/
theorem mark_any (B : Nat) (g len cap : Nat) (xs : List Int) (k : Int) (w : World) (h : OwnI w B (some ⟨g, 0, none⟩) len cap xs) (hm : len ≤ 1048576) (h0 : 0 ≤ k) (h1 : k ≤ 4194304) :
    Calls Try.prog 42 #[.slice (some ⟨g, 0, none⟩) len cap, .int .i64 k] w fun e w' => e = .returned (.int .i64 (k + len)) ∧ w.grownBy w' (some g) ∧ OwnI w' B (some ⟨g, 0, none⟩) len cap (marks k len) := by
  have hl := h.len
  have H := Lib.hid h
  clear h
  go_enter Try.func42, Try.ntmps42
  go_wp2
  go_loopw [1, 5] (fun q i wr => ∃ j : Nat, j ≤ len ∧ i = .int .i64 j ∧ q = .int .i64 (k + j) ∧ w.grownBy wr (some g) ∧ OwnI wr B (some ⟨g, 0, none⟩) len cap ((marks k len).take j ++ xs.drop j)) (fun _ i _ => len - (intOf i).toNat)
  case atStart => exact ⟨0, Nat.zero_le _, rfl, by simp, World.grownBy.refl _ _, by simpa using H.out⟩
  case round =>
    obtain ⟨j, hj, rfl, rfl, hgr, hown⟩ := hrel
    by_cases hlt : j < len
    · have hl2 := hown.len
      have hd : wr.cell? ⟨g, j, none⟩ = some (.int .i64 (((marks k len).take j ++ xs.drop j).getD j 0)) := by
        rw [World.ownsRow.cellAt hown j (by omega), List.getElem?_map, List.getElem?_eq_getElem (by omega), getD_elem (by omega)]; rfl
      have hf := hown.frozen j
      have hs := hown.set j (k + j)
      have hg2 : w.grownBy (wr.setCell ⟨g, j, none⟩ (.int .i64 (k + j))) (some g) := grown_set hgr
      rw [mark_step hl hlt] at hs
      generalize ((marks k len).take j ++ xs.drop j).getD j 0 = z at hd
      clear hl2
      have hs := Lib.hid hs
      have hown := Lib.hid hown
      have hg2 := Lib.hid hg2
      go_wp2
      exact ⟨⟨j + 1, by omega, by go_num, by go_num, hg2.out, hs.out⟩, by simp [intOf]; omega⟩
    · have : j = len := by omega
      subst this
      have hown := Lib.hid hown
      go_wp2
      go_ret
      have ho := hown.out
      rw [List.take_of_length_le (by rw [marks_len]; omega), List.drop_of_length_le (by omega), List.append_nil] at ho
      exact ⟨rfl, hgr, ho⟩

set_option maxHeartbeats 400000 in
/-- 'heldIntS' over a slice that holds its marks. -/
theorem held_any (a : Option Addr) (len cap : Nat) (k : Int) (w : World) (h : Row w a len (marks k len)) (hm : len ≤ 1048576) (h0 : 0 ≤ k) (h1 : k ≤ 4194304) :
    Calls Try.prog 43 #[.slice a len cap, .int .i64 k] w fun e w' => e = .returned (.int .i64 (k + len)) ∧ Below w.heap.size w w' := by
  have H := Lib.hid h
  clear h
  go_enter Try.func43, Try.ntmps43
  go_wp2
  go_loopw [1, 5] (fun q i wr => ∃ j : Nat, j ≤ len ∧ i = .int .i64 j ∧ q = .int .i64 (k + j) ∧ Below w.heap.size w wr) (fun _ i _ => len - (intOf i).toNat)
  case atStart => exact ⟨0, Nat.zero_le _, rfl, by simp, Below.refl _ _⟩
  case round =>
    obtain ⟨j, hj, rfl, rfl, hbel⟩ := hrel
    by_cases hlt : j < len
    · obtain ⟨b, off, rfl, hc⟩ := row_at H.out hlt
      rw [marks_get _ _ _ hlt] at hc
      have hc := kept hbel (block_lt hc) hc
      go_wp2
      exact ⟨⟨j + 1, by omega, by go_num, by go_num, hbel⟩, by simp [intOf]; omega⟩
    · have : j = len := by omega
      subst this
      go_wp2
      go_ret
      exact ⟨rfl, hbel⟩

end Go.Proofs.Yteadibgjieimkaa

