/-
  Lists of flags: comparing, marking and holding them; the contracts of CellReach of both sides.
-/
import Derived.Test.YtepeplmbnkjeeaaMk
namespace Go.Proofs.Ytepeplmbnkjeeaa
set_option maxRecDepth 100000
open Go.RowKit

theorem infoFlag : (Try.prog.info? 4).map (fun i => (i.zero, i.size, i.bytes)) = some (some (.bool false), 1, 1) := by kernel_rfl
/-- Flags that can be read. -/
def RowG (w : World) (a : Option Addr) (n : Nat) (u : Nat → Bool) : Prop := n = 0 ∨ ∃ b off, a = some ⟨b, off, none⟩ ∧ ∀ i, i < n → w.cell? ⟨b, off + i, none⟩ = some (.bool (u i))
theorem RowG.bel {w w' : World} {a : Option Addr} {n : Nat} {u : Nat → Bool} (h : RowG w a n u) (hb : Below w.heap.size w w') : RowG w' a n u :=
  h.imp id fun ⟨b, off, e, hc⟩ => ⟨b, off, e, fun i hi => kept hb (block_lt (hc i hi)) (hc i hi)⟩
theorem RowG.at {w : World} {a : Option Addr} {n : Nat} {u : Nat → Bool} (h : RowG w a n u) {i : Nat} (hi : i < n) : ∃ b off, a = some ⟨b, off, none⟩ ∧ w.cell? ⟨b, off + i, none⟩ = some (.bool (u i)) := by
  obtain ⟨b, off, e, hc⟩ := h.resolve_left (by omega)
  exact ⟨b, off, e, hc i hi⟩
theorem RowG.ext {w : World} {a : Option Addr} {n : Nat} {u v : Nat → Bool} (h : RowG w a n u) (e : ∀ i, i < n → u i = v i) : RowG w a n v :=
  h.imp id fun ⟨b, off, ea, hc⟩ => ⟨b, off, ea, fun i hi => by rw [← e i hi]; exact hc i hi⟩
def flagsV (u : Nat → Bool) (n : Nat) : List Value := (List.range n).map fun i => .bool (u i)
theorem flags_len (u : Nat → Bool) (n : Nat) : (flagsV u n).length = n := by simp [flagsV]
theorem flags_at (u : Nat → Bool) (n i : Nat) (h : i < (flagsV u n).length) : (flagsV u n)[i] = .bool (u i) := by simp [flagsV]
theorem flags_snoc (u : Nat → Bool) (n : Nat) : flagsV u (n + 1) = flagsV u n ++ [.bool (u n)] := by simp [flagsV, List.range_succ]
theorem flags_ext {u v : Nat → Bool} {n : Nat} (h : ∀ i, i < n → u i = v i) : flagsV u n = flagsV v n := by
  unfold flagsV
  apply List.map_congr_left
  intro i hi
  rw [h i (List.mem_range.1 hi)]
/-- Flags that the call owns. -/
def OwnG (w : World) (B : Nat) (a : Option Addr) (n cap : Nat) (u : Nat → Bool) : Prop := w.ownsRow B 4 1 (.slice a n cap) n (flagsV u n)
variable {w w' : World} {B n cap : Nat} {a : Option Addr} {u v : Nat → Bool}
theorem OwnG.ext (h : OwnG w B a n cap u) (e : ∀ i, i < n → u i = v i) : OwnG w B a n cap v := by
  unfold OwnG; rw [← flags_ext e]; exact h
theorem OwnG.bel (h : OwnG w B a n cap u) (hb : Below w.heap.size w w') : OwnG w' B a n cap u := by
  rcases h.2 with ⟨e, h0⟩ | ⟨g, c, cur, e, _⟩
  · exact ⟨h.1, .inl ⟨e, h0⟩⟩
  · cases e; exact World.ownsRow.kept h (below_grown hb none) (.inr (by simp [Value.ownBlock]))
theorem OwnG.cases (h : OwnG w B a n cap u) : (a = none ∧ n = 0 ∧ cap = 0) ∨ ∃ g, a = some ⟨g, 0, none⟩ ∧ B ≤ g ∧ g < w.heap.size := by
  rcases h.2 with ⟨e, h0⟩ | ⟨g, c, cur, e, hB, hh, _⟩
  · cases e; exact .inl ⟨rfl, rfl, rfl⟩
  · cases e
    exact .inr ⟨g, rfl, hB, (Array.getElem?_eq_some_iff.1 hh).1⟩
theorem OwnG.mono {B' : Nat} (h : OwnG w B a n cap u) (hB : B' ≤ B) : OwnG w B' a n cap u := by
  refine ⟨h.1, h.2.imp id ?_⟩
  rintro ⟨g, c, cur, e, hb, hh⟩
  exact ⟨g, c, cur, e, by omega, hh⟩
theorem OwnG.other {k : Nat} (h : OwnG w B a n cap u) (hg : w.grownBy w' (some k)) (hk : k < B) : OwnG w' B a n cap u := by
  rcases h.cases with ⟨rfl, rfl, rfl⟩ | ⟨g, rfl, h1, _⟩
  · exact ⟨h.1, .inl ⟨rfl, rfl⟩⟩
  · exact World.ownsRow.kept h hg (.inr (by simp [Value.ownBlock]; omega))
theorem OwnG.row (h : OwnG w B a n cap u) : RowG w a n u := by
  rcases h.cases with ⟨_, h0, _⟩ | ⟨g, rfl, _, _⟩
  · exact .inl h0
  · refine .inr ⟨g, 0, rfl, fun i hi => ?_⟩
    rw [Nat.zero_add, World.ownsRow.cellAt h i (by omega)]
    unfold flagsV; simp [hi]
theorem OwnG.cell {g : Nat} (h : OwnG w B (some ⟨g, 0, none⟩) n cap u) {i : Nat} (hi : i < n) : w.cell? ⟨g, i, none⟩ = some (.bool (u i)) := by
  rw [World.ownsRow.cellAt h i (by omega)]
  unfold flagsV; simp [hi]
theorem OwnG.frozen {g : Nat} (h : OwnG w B (some ⟨g, 0, none⟩) n cap u) (j : Nat) : w.frozen? ⟨g, j, none⟩ = false := World.ownsRow.frozenAt h j
theorem OwnG.set {g : Nat} (h : OwnG w B (some ⟨g, 0, none⟩) n cap u) (j : Nat) (b : Bool) : OwnG (w.setCell ⟨g, j, none⟩ (.bool b)) B (some ⟨g, 0, none⟩) n cap (fun k => if k = j then b else u k) := by
  have h1 := (World.ownsRow.stored h j (.bool b)).1
  have e : (flagsV u n).set j (.bool b) = flagsV (fun k => if k = j then b else u k) n := by
    apply List.ext_getElem (by simp [flagsV])
    intro k h1 h2
    rw [List.getElem_set]
    rw [flags_at, flags_at]
    by_cases e : j = k
    · subst e; rw [if_pos rfl, if_pos rfl]
    · rw [if_neg e, if_neg (Ne.symm e)]
  unfold OwnG
  rw [← e]; exact h1
theorem OwnG.nil (w : World) (B : Nat) (u : Nat → Bool) : OwnG w B none 0 0 u := ⟨rfl, .inl ⟨rfl, rfl⟩⟩
/-- A flag is appended. -/
theorem wpList_append_flag {w : World} {ops : Array Oper} {rest : List Oper} {o : Oper} {a : Act} {Q : Exit → Act → World → Prop} (hgd : o.guard = none) (s x : Operand)
    (ho : o.op = .call { callee := .builtin .append, args := #[s, x], argTypes := #[28, 28] })
    (base g N c : Nat) (u : Nat → Bool) (hs : a.eval s = .slice (some ⟨g, 0, none⟩) N c) (hown : OwnG w base (some ⟨g, 0, none⟩) N c u)
    (k : Nat) (hx : a.eval x = .slice (some ⟨k, 0, none⟩) 1 1) (c0 : w.cell? ⟨k, 0, none⟩ = some (.bool (u N))) (hN : N ≤ 1048576) (hbase : base ≤ w.heap.size)
    (h : ∀ g' c' w', OwnG w' base (some ⟨g', 0, none⟩) (N + 1) c' u → w.grownBy w' (some g) → (g' = g ∨ g' = w.heap.size) → wpList Try.prog ops Q rest (a.put o.dst (.slice (some ⟨g', 0, none⟩) (N + 1) c')) w') :
    wpList Try.prog ops Q (o :: rest) a w := by
  obtain ⟨i0, hi, hz0, hz1, hz2⟩ := info_parts infoFlag
  refine wpList_append_lies hgd s x 28 ho base 4 i0 (.bool false) 1 1 Try.underlying28 hi hz0 hz1 hz2 rfl (by decide) _ N (flagsV u N) hs hown
    ⟨k, 0, none⟩ 1 1 [.bool (u N)] hx rfl (fun j v hj => ?_) (fun v hv => by simp at hv; subst hv; rfl) (by omega) (by unfold maxLen; omega) (by omega) hbase fun g' c' w' h2 h3 h4 => h g' c' w' ?_ ?_ ?_
  · cases j with
    | zero => simp at hj; subst hj; simpa [Addr.add] using c0
    | succ j => simp at hj
  · unfold OwnG; rw [flags_snoc]; exact h2
  · exact h3
  · rcases h4 with h | h
    · left; simp [Value.ownBlock] at h; exact h.symm
    · exact .inr h
set_option maxHeartbeats 1000000 in
theorem sameF_yes (a a' : Option Addr) (n cap cap' : Nat) (u : Nat → Bool) (w : World) (h : RowG w a n u) (h' : RowG w a' n u) (hm : n ≤ 1048576) :
    Calls Try.prog 27 #[.slice a n cap, .slice a' n cap'] w fun e w' => e = .returned (.bool true) ∧ Below w.heap.size w w' := by
  have hR := Lib.hid h
  have hR' := Lib.hid h'
  clear h h'
  go_enter Try.func27, Try.ntmps27
  go_wp2_with fail
  go_loopw [5] (fun i wr => ∃ k : Nat, k ≤ n ∧ i = .int .i64 k ∧ Hid (Below w.heap.size w wr)) (fun i _ => n - (intOf i).toNat)
  case atStart => exact ⟨0, Nat.zero_le _, rfl, Below.refl _ _⟩
  case round =>
    obtain ⟨k, hk, rfl, hbel⟩ := hrel
    by_cases hlt : k < n
    · obtain ⟨b, off, ea, hc⟩ := hR.out.at hlt
      obtain ⟨b', off', ea', hc'⟩ := hR'.out.at hlt
      replace hc := kept hbel.out (block_lt hc) hc
      replace hc' := kept hbel.out (block_lt hc') hc'
      subst ea
      subst ea'
      go_wp2_with fail
      go_quiet (fail)
      go_wp2_with fail
      exact ⟨⟨k + 1, by omega, by go_num, below_drewN hbel.out _⟩, by simp [intOf]; omega⟩
    · obtain rfl : k = n := by omega
      go_wp2_with fail
      go_ret
      exact ⟨rfl, hbel.out⟩
set_option maxHeartbeats 1000000 in
theorem eqG_yes (a a' : Option Addr) (n cap cap' : Nat) (u : Nat → Bool) (w : World) (h : RowG w a n u) (h' : RowG w a' n u) (hm : n ≤ 1048576) :
    Calls Try.prog 66 #[.slice a n cap, .slice a' n cap'] w fun e w' => e = .returned (.bool true) ∧ Below w.heap.size w w' := by
  have hR := Lib.hid h
  have hR' := Lib.hid h'
  clear h h'
  go_enter Try.func66, Try.ntmps66
  go_wp2_with fail
  go_loopw [5] (fun i wr => ∃ k : Nat, k ≤ n ∧ i = .int .i64 k ∧ Hid (Below w.heap.size w wr)) (fun i _ => n - (intOf i).toNat)
  case atStart => exact ⟨0, Nat.zero_le _, rfl, Below.refl _ _⟩
  case round =>
    obtain ⟨k, hk, rfl, hbel⟩ := hrel
    by_cases hlt : k < n
    · obtain ⟨b, off, ea, hc⟩ := hR.out.at hlt
      obtain ⟨b', off', ea', hc'⟩ := hR'.out.at hlt
      replace hc := kept hbel.out (block_lt hc) hc
      replace hc' := kept hbel.out (block_lt hc') hc'
      subst ea
      subst ea'
      go_wp2_with fail
      go_quiet (fail)
      go_wp2_with fail
      exact ⟨⟨k + 1, by omega, by go_num, below_drewN hbel.out _⟩, by simp [intOf]; omega⟩
    · obtain rfl : k = n := by omega
      go_wp2_with fail
      go_ret
      exact ⟨rfl, hbel.out⟩
/-- The flags of a list that is marked from k on. -/
def markF (k : Nat) (i : Nat) : Bool := (k + i) % 3 == 0
set_option maxHeartbeats 1000000 in
theorem markG_any (B g n cap : Nat) (u : Nat → Bool) (k : Nat) (w : World) (h : OwnG w B (some ⟨g, 0, none⟩) n cap u) (hm : n ≤ 1048576) (hk : k ≤ 1048576) :
    Calls Try.prog 67 #[.slice (some ⟨g, 0, none⟩) n cap, .int .i64 k] w fun e w' => e = .returned (.int .i64 ((k : Int) + n)) ∧ w.grownBy w' (some g) ∧ OwnG w' B (some ⟨g, 0, none⟩) n cap (markF k) := by
  have H := Lib.hid h
  clear h
  go_enter Try.func67, Try.ntmps67
  go_wp2_with fail
  go_loopw [1, 5] (fun q i wr => ∃ j : Nat, j ≤ n ∧ i = .int .i64 j ∧ q = .int .i64 ((k : Int) + j) ∧ Hid (w.grownBy wr (some g)) ∧ Hid (OwnG wr B (some ⟨g, 0, none⟩) n cap (fun i => if i < j then markF k i else u i))) (fun _ i _ => n - (intOf i).toNat)
  case atStart => exact ⟨0, Nat.zero_le _, rfl, by simp, World.grownBy.refl _ _, H.out.ext fun i _ => by simp⟩
  case round =>
    clear H
    obtain ⟨j, hj, rfl, rfl, hgr, hown⟩ := hrel
    by_cases hlt : j < n
    · have hd := hown.out.cell hlt
      have hf := hown.out.frozen
      have hs := Lib.hid ((hown.out.set j (markF k j)).ext (v := fun i => if i < j + 1 then markF k i else u i) fun i _ => by
        by_cases e : i = j
        · subst e; rw [if_pos rfl, if_pos (by omega)]
        · rw [if_neg e]
          by_cases e2 : i < j
          · rw [if_pos e2, if_pos (by omega)]
          · rw [if_neg e2, if_neg (by omega)])
      have em : ((((k : Int) + (j : Int)).tmod 3) == 0) = markF k j := by
        rw [Int.tmod_eq_emod_of_nonneg (by omega)]
        unfold markF
        rw [Bool.eq_iff_iff, beq_iff_eq, beq_iff_eq]; omega
      have hw3 : IntKind.i64.wrap (((k : Int) + (j : Int)).tmod 3) = ((k : Int) + (j : Int)).tmod 3 := by
        rw [Int.tmod_eq_emod_of_nonneg (by omega)]; exact IntWalk.i64_in _ ⟨by omega, by omega⟩
      have hg2 := Lib.hid (grown_set (j := j) (v := .bool (markF k j)) hgr.out)
      have em2 : ((((k : Int) + (j : Int)) % 3) == 0) = markF k j := by rw [← em, Int.tmod_eq_emod_of_nonneg (by omega)]
      generalize (if j < j then markF k j else u j) = z at hd
      generalize markF k j = mk at *
      clear hgr hown
      go_wp2_with fail
      exact ⟨⟨j + 1, by omega, by go_num, by go_num, hg2, hs⟩, by simp [intOf]; omega⟩
    · obtain rfl : j = n := by omega
      go_wp2_with fail
      go_ret
      exact ⟨rfl, hgr.out, hown.out.ext fun i hi => by simp [hi]⟩
theorem markG_own (B : Nat) (a : Option Addr) (n cap : Nat) (u : Nat → Bool) (k : Nat) (w : World) (h : OwnG w B a n cap u) (hm : n ≤ 1048576) (hk : k ≤ 1048576) :
    Calls Try.prog 67 #[.slice a n cap, .int .i64 k] w fun e w' => e = .returned (.int .i64 ((k : Int) + n)) ∧ w.grownBy w' (rowOf a) ∧ OwnG w' B a n cap (markF k) := by
  rcases h.cases with ⟨rfl, rfl, rfl⟩ | ⟨g, rfl, _, _⟩
  · go_enter Try.func67, Try.ntmps67
    go_wp2_with fail
    refine wp_loop_rounds 1 ?_
    rw [rounds_succ]
    go_wp2_with fail
    go_ret
    exact ⟨by simp, World.grownBy.refl _ _, OwnG.nil _ _ _⟩
  · exact (markG_any B g n cap u k w h hm hk).mono fun _ _ hh => hh
set_option maxHeartbeats 1000000 in
theorem heldG_any (a : Option Addr) (n cap k : Nat) (w : World) (h : RowG w a n (markF k)) (hm : n ≤ 1048576) (hk : k ≤ 1048576) :
    Calls Try.prog 68 #[.slice a n cap, .int .i64 k] w fun e w' => e = .returned (.int .i64 ((k : Int) + n)) ∧ Below w.heap.size w w' := by
  have H := Lib.hid h
  clear h
  go_enter Try.func68, Try.ntmps68
  go_wp2_with fail
  go_loopw [1, 5] (fun q i wr => ∃ j : Nat, j ≤ n ∧ i = .int .i64 j ∧ q = .int .i64 ((k : Int) + j) ∧ Hid (Below w.heap.size w wr)) (fun _ i _ => n - (intOf i).toNat)
  case atStart => exact ⟨0, Nat.zero_le _, rfl, by simp, Below.refl _ _⟩
  case round =>
    obtain ⟨j, hj, rfl, rfl, hbel⟩ := hrel
    by_cases hlt : j < n
    · obtain ⟨b, off, ea, hc⟩ := H.out.at hlt
      replace hc := kept hbel.out (block_lt hc) hc
      have em : ((((k : Int) + (j : Int)).tmod 3) == 0) = markF k j := by
        rw [Int.tmod_eq_emod_of_nonneg (by omega)]
        unfold markF
        rw [Bool.eq_iff_iff, beq_iff_eq, beq_iff_eq]; omega
      have hw3 : IntKind.i64.wrap (((k : Int) + (j : Int)).tmod 3) = ((k : Int) + (j : Int)).tmod 3 := by
        rw [Int.tmod_eq_emod_of_nonneg (by omega)]; exact IntWalk.i64_in _ ⟨by omega, by omega⟩
      have em2 : ((((k : Int) + (j : Int)) % 3) == 0) = markF k j := by rw [← em, Int.tmod_eq_emod_of_nonneg (by omega)]
      generalize markF k j = mk at *
      subst ea
      go_wp2_with fail
      (try go_quiet (fail))
      (try go_wp2_with fail)
      exact ⟨⟨j + 1, by omega, by go_num, by go_num, (by first | exact hbel | exact below_drewN hbel.out _)⟩, by simp [intOf]; omega⟩
    · obtain rfl : j = n := by omega
      go_wp2_with fail
      go_ret
      exact ⟨rfl, hbel.out⟩
/-- How many flags CellReach gives, and which. -/
def rchN (W : Int) (xs : List Int) (i : Int) : Nat := if validB W xs = true ∧ inB i 0 ((xs.length : Int) - 1) = true then xs.length + W.toNat else 0
def rchU (W : Int) (xs : List Int) (i : Int) : Nat → Bool := rchB xs W.toNat xs.length i.toNat
theorem rchN_no {W : Int} {xs : List Int} {i : Int} (h : ¬ (validB W xs = true ∧ inB i 0 ((xs.length : Int) - 1) = true)) : rchN W xs i = 0 := if_neg h
theorem rchN_yes {W n : Nat} {xs : List Int} (h : Im W n xs) {i : Nat} (hi : i < n) : rchN W xs i = n + W ∧ rchU W xs i = rchB xs W n i := by
  refine ⟨?_, by unfold rchU; rw [h.hl, Int.toNat_natCast, Int.toNat_natCast]⟩
  unfold rchN
  rw [if_pos ⟨h.valid, inB_yes (by omega) (by rw [h.hl]; omega)⟩, h.hl, Int.toNat_natCast]
set_option maxHeartbeats 2000000 in
theorem reach_spec (W : Int) (a : Option Addr) (n cap : Nat) (xs : List Int) (i : Int) (w : World) (h : Row w a n xs) (hm : n ≤ 9223372036854775807) :
    Calls Try.prog 26 #[.agg #[.int .i64 W, .slice a n cap], .int .i64 i] w fun e w' => (∃ s c, e = .returned (.slice s (rchN W xs i) c) ∧ OwnG w' w.heap.size s (rchN W xs i) c (rchU W xs i)) ∧ Below w.heap.size w w' := by
  have hl := h.1
  have hn0 : (0 : Int) ≤ n := by omega
  obtain ⟨W0, hW0⟩ : ∃ W0, W0 = ((w.alloc (.cells #[.int .i64 W, .slice a n cap] 25)).alloc (.cells #[] 4)) := ⟨_, rfl⟩
  have bb : Hid (Below w.heap.size w W0) := by subst hW0; exact ((Below.refl _ _).alloc (Nat.le_refl _) _).alloc (by simp) _
  have x0 : W0.cell? ⟨w.heap.size, 0, none⟩ = some (.int .i64 W) := by subst hW0; go_simp
  have x1 : W0.cell? ⟨w.heap.size, 1, none⟩ = some (.slice a n cap) := by subst hW0; go_simp
  have r := Lib.hid (h.bel bb.out)
  have ho0 : OwnG W0 (w.heap.size + 1) (some ⟨w.heap.size + 1, 0, none⟩) 0 0 (rchU W xs i) := by subst hW0; have := World.ownsRow_lit (base := w.heap.size + 1) (e := 4) (size := 1) (w.alloc (.cells #[.int .i64 W, .slice a n cap] 25)) #[] 0 (by simp) (by decide) rfl; simpa [OwnG, flagsV] using this
  have ho0 := Lib.hid ho0
  have sw0 : W0.heap.size = w.heap.size + 2 := by rw [hW0]; simp
  replace sw0 := Lib.hid sw0
  clear h
  by_cases hv : validB W xs = true
  case neg =>
    rw [rchN_no (fun h => hv h.1)]
    have hv : validB W xs = false := by simpa using hv
    clear hl
    go_enter Try.func26, Try.ntmps26
    go_wp2_with fail
    rw [← hW0]
    clear hW0
    refine (valid_spec W a n cap xs _ r.out hm).mono ?_
    rintro e v1 ⟨rfl, hb⟩
    have szv1 := hb.size
    replace x0 := kept hb (block_lt x0) x0
    replace x1 := kept hb (block_lt x1) x1
    replace r := Lib.hid (r.out.bel hb)
    replace ho0 := Lib.hid (ho0.out.bel hb)
    replace bb := Lib.hid (bb.out.trans (hb.mono bb.out.size))
    rw [hv]
    clear hb
    go_wp2_with fail
    go_ret
    exact ⟨⟨_, _, rfl, ho0.out.mono (by omega)⟩, bb.out⟩
  have hW := validB_W hv
  by_cases hc : inB i 0 ((n : Int) - 1) = true
  case neg =>
    rw [rchN_no (fun h => hc (by rw [← hl]; exact h.2))]
    have hc : inB i 0 ((n : Int) - 1) = false := by simpa using hc
    clear hl
    go_enter Try.func26, Try.ntmps26
    go_wp2_with fail
    rw [← hW0]
    clear hW0
    refine (valid_spec W a n cap xs _ r.out hm).mono ?_
    rintro e v2 ⟨rfl, hb⟩
    have szv2 := hb.size
    replace x0 := kept hb (block_lt x0) x0
    replace x1 := kept hb (block_lt x1) x1
    replace r := Lib.hid (r.out.bel hb)
    replace ho0 := Lib.hid (ho0.out.bel hb)
    replace bb := Lib.hid (bb.out.trans (hb.mono bb.out.size))
    rw [hv]
    clear hb
    go_wp2_with fail
    refine (in_any i 0 ((n : Int) - 1) _).mono ?_
    rintro e vi ⟨rfl, rfl⟩
    rw [hc]
    go_wp2_with fail
    go_ret
    exact ⟨⟨_, _, rfl, ho0.out.mono (by omega)⟩, bb.out⟩
  have hcc := inB_iff.1 hc
  obtain ⟨W, rfl⟩ := Int.eq_ofNat_of_zero_le (by omega : 0 ≤ W)
  obtain ⟨i, rfl⟩ := Int.eq_ofNat_of_zero_le hcc.1
  have hI : Im W n xs := Im.of hv hl
  have hi : i < n := by omega
  have hN := rchN_yes hI hi
  rw [hN.1]
  rw [hN.2] at ho0 ⊢
  have hw6 := hI.w6
  have hn6 := hI.l6
  have hpar := Lib.hid (fun wx hx => parents_any W a n cap xs i wx hx hI (by omega))
  have hu : ∀ q, rchB xs W n i q = decide (0 ≤ (parP xs W n i).getD q 0) := fun q => rfl
  obtain ⟨M, hM⟩ : ∃ M, n + W = M := ⟨_, rfl⟩
  have hM12 : M ≤ 12 := by omega
  rw [hM] at hpar ⊢
  generalize rchB xs W n i = u at *
  generalize parP xs W n i = Q at *
  replace hu := Lib.hid hu
  replace hM := Lib.hid hM
  replace ho0 := Lib.hid ho0.out
  clear hI hN hl
  go_enter Try.func26, Try.ntmps26
  go_wp2_with fail
  rw [← hW0]
  clear hW0
  refine (valid_spec (W : Int) a n cap xs _ r.out hm).mono ?_
  rintro e v3 ⟨rfl, hb⟩
  have szv3 := hb.size
  replace x0 := kept hb (block_lt x0) x0
  replace x1 := kept hb (block_lt x1) x1
  replace r := Lib.hid (r.out.bel hb)
  replace ho0 := Lib.hid (ho0.out.bel hb)
  replace bb := Lib.hid (bb.out.trans (hb.mono bb.out.size))
  rw [hv]
  clear hb
  go_wp2_with fail
  refine (in_any (i : Int) 0 ((n : Int) - 1) _).mono ?_
  rintro e vi ⟨rfl, rfl⟩
  rw [hc]
  go_wp2_with fail
  refine (hpar.out _ r.out).mono ?_
  rintro e v4 ⟨⟨g1, c1, rfl, ho⟩, hb⟩
  have szv4 := hb.size
  replace x0 := kept hb (block_lt x0) x0
  replace x1 := kept hb (block_lt x1) x1
  replace r := Lib.hid (r.out.bel hb)
  replace ho0 := Lib.hid (ho0.out.bel hb)
  replace bb := Lib.hid (bb.out.trans (hb.mono bb.out.size))
  have qr := Lib.hid ho.row
  have lq1 : w.heap.size + 2 ≤ g1 := by have h1 : _ ≤ g1 := (rng_own ho _ rfl).1; have := sw0.out; have := szv3; omega
  clear ho
  clear hb
  have og1 : w.heap.size + 1 < v4.heap.size := by have := szv4; have := szv3; have := sw0.out; omega
  have bz := bb.out.size
  go_wp2_with fail
  go_loopw [5, 7] (fun o v wr => ∃ (k g c : Nat), k ≤ M ∧ g1 ≠ g ∧ v = .int .i64 k ∧ o = .slice (some ⟨g, 0, none⟩) k c ∧ Hid (OwnG wr (w.heap.size + 1) (some ⟨g, 0, none⟩) k c u) ∧ Hid (Row wr (some ⟨g1, 0, none⟩) M Q) ∧ Hid (Below w.heap.size w wr)) (fun _ v _ => M - (intOf v).toNat)
  case atStart => exact ⟨0, _, 0, Nat.zero_le _, by omega, rfl, rfl, ho0, qr, bb⟩
  case round =>
    clear ho0 qr bb
    obtain ⟨k, g, c, hk, hgg, rfl, rfl, hO, qr, bb⟩ := hrel
    obtain ⟨wo, rfl⟩ : ∃ wo : World, wo = wr := ⟨_, rfl⟩
    have bs := bb.out.size
    by_cases hlt : k < M
    case neg =>
      obtain rfl : k = M := by omega
      go_wp2_with fail
      go_ret
      exact ⟨⟨_, _, rfl, hO.out.mono (by omega)⟩, bb.out⟩
    obtain ⟨gq, oq, e, cq⟩ := row_at qr.out hlt
    cases e
    rw [Nat.zero_add] at cq
    have lq2 : g1 < wo.heap.size := block_lt cq
    have hlies2 : True := trivial
    have huk := hu.out k
    generalize Q.getD k 0 = x at cq huk
    have gg : w.heap.size + 1 ≤ g ∧ g < wo.heap.size := by
      rcases hO.out.cases with ⟨h, _⟩ | ⟨g', h, h1, h2⟩
      · cases h
      · cases h; exact ⟨h1, h2⟩
    go_wp2_with (at_builtin; refine wpList_append_flag rfl _ _ rfl (w.heap.size + 1) g k c u rfl (hO.out.bel ((Below.refl _ _).alloc (Nat.le_refl _) _)) wo.heap.size rfl (by rw [huk]; simp) (by omega) (by simp; omega) ?_)
    intro g' c' w4 hown hgr hlies
    have hB4 := Lib.hid ((bb.out.alloc bs (.cells #[.bool (decide (0 ≤ x))] 4)).grown hgr (by simp; omega) (fun q hq => by cases hq; omega))
    have qr4 := Lib.hid ((qr.out.alloc (.cells #[.bool (decide (0 ≤ x))] 4)).apart hgr (fun b off e hn => by cases e; simp; omega))
    replace hown := Lib.hid hown
    have hne : g1 ≠ g' := by rcases hlies with h | h <;> (try simp at h) <;> omega
    clear hgr hlies hO bb qr gg
    go_wp2_with fail
    exact ⟨⟨k + 1, g', c', by omega, hne, by go_num, rfl, hown, qr4, hB4⟩, by simp [intOf]; omega⟩
set_option maxHeartbeats 2000000 in
theorem reach_impl (W : Int) (a : Option Addr) (n cap : Nat) (xs : List Int) (i : Int) (w : World) (h : Row w a n xs) (hm : n ≤ 9223372036854775807) :
    Calls Try.prog 25 #[.agg #[.int .i64 W, .slice a n cap], .int .i64 i] w fun e w' => (∃ s c, e = .returned (.slice s (rchN W xs i) c) ∧ OwnG w' w.heap.size s (rchN W xs i) c (rchU W xs i)) ∧ Below w.heap.size w w' := by
  have hl := h.1
  have hn0 : (0 : Int) ≤ n := by omega
  obtain ⟨W0, hW0⟩ : ∃ W0, W0 = (w.alloc (.cells #[.int .i64 W, .slice a n cap] 25)) := ⟨_, rfl⟩
  have bb : Hid (Below w.heap.size w W0) := by subst hW0; exact (Below.refl _ _).alloc (Nat.le_refl _) _
  have x0 : W0.cell? ⟨w.heap.size, 0, none⟩ = some (.int .i64 W) := by subst hW0; go_simp
  have x1 : W0.cell? ⟨w.heap.size, 1, none⟩ = some (.slice a n cap) := by subst hW0; go_simp
  have r := Lib.hid (h.bel bb.out)
  clear h
  by_cases hv : validB W xs = true
  case neg =>
    rw [rchN_no (fun h => hv h.1)]
    have hv : validB W xs = false := by simpa using hv
    clear hl
    go_enter Try.func25, Try.ntmps25
    go_wp2_with fail
    rw [← hW0]
    clear hW0
    refine (valid_impl W a n cap xs _ r.out hm).mono ?_
    rintro e v1 ⟨rfl, hb⟩
    have szv1 := hb.size
    replace x0 := kept hb (block_lt x0) x0
    replace x1 := kept hb (block_lt x1) x1
    replace r := Lib.hid (r.out.bel hb)
    replace bb := Lib.hid (bb.out.trans (hb.mono bb.out.size))
    rw [hv]
    clear hb
    go_wp2_with fail
    go_ret
    have ho : OwnG (v1.alloc (.cells #[] 4)) w.heap.size (some ⟨v1.heap.size, 0, none⟩) 0 0 (rchU W xs i) := by have := World.ownsRow_lit (base := w.heap.size) (e := 4) (size := 1) v1 #[] 0 bb.out.size (by decide) rfl; simpa [OwnG, flagsV] using this
    exact ⟨⟨_, _, rfl, ho⟩, bb.out.alloc bb.out.size _⟩
  have hW := validB_W hv
  have hce : cellB W n i 0 = inB i 0 ((n : Int) - 1) := by unfold cellB inB; rw [Bool.eq_iff_iff, decide_eq_true_iff, decide_eq_true_iff]; omega
  by_cases hc : inB i 0 ((n : Int) - 1) = true
  case neg =>
    rw [rchN_no (fun h => hc (by rw [← hl]; exact h.2))]
    have hc : inB i 0 ((n : Int) - 1) = false := by simpa using hc
    rw [hc] at hce
    clear hl
    go_enter Try.func25, Try.ntmps25
    go_wp2_with fail
    rw [← hW0]
    clear hW0
    refine (valid_impl W a n cap xs _ r.out hm).mono ?_
    rintro e v2 ⟨rfl, hb⟩
    have szv2 := hb.size
    replace x0 := kept hb (block_lt x0) x0
    replace x1 := kept hb (block_lt x1) x1
    replace r := Lib.hid (r.out.bel hb)
    replace bb := Lib.hid (bb.out.trans (hb.mono bb.out.size))
    rw [hv]
    clear hb
    go_wp2_with fail
    refine (inside_any W a n cap i 0 _).mono ?_
    rintro e v3 ⟨rfl, hb⟩
    have szv3 := hb.size
    replace x0 := kept hb (block_lt x0) x0
    replace x1 := kept hb (block_lt x1) x1
    replace r := Lib.hid (r.out.bel hb)
    replace bb := Lib.hid (bb.out.trans (hb.mono bb.out.size))
    rw [hce]
    clear hb
    go_wp2_with fail
    go_ret
    have ho : OwnG (v3.alloc (.cells #[] 4)) w.heap.size (some ⟨v3.heap.size, 0, none⟩) 0 0 (rchU W xs i) := by have := World.ownsRow_lit (base := w.heap.size) (e := 4) (size := 1) v3 #[] 0 bb.out.size (by decide) rfl; simpa [OwnG, flagsV] using this
    exact ⟨⟨_, _, rfl, ho⟩, bb.out.alloc bb.out.size _⟩
  have hcc := inB_iff.1 hc
  rw [hc] at hce
  obtain ⟨W, rfl⟩ := Int.eq_ofNat_of_zero_le (by omega : 0 ≤ W)
  obtain ⟨i, rfl⟩ := Int.eq_ofNat_of_zero_le hcc.1
  have hI : Im W n xs := Im.of hv hl
  have hi : i < n := by omega
  have hN := rchN_yes hI hi
  rw [hN.1, hN.2]
  have hw6 := hI.w6
  have hn6 := hI.l6
  have hw1 := hI.w1
  have hA := arrs_all hI
  have harr := Lib.hid (fun wx hx => arrows_any W a n cap xs wx hx hI)
  have hsrc := Lib.hid (fun b c wx hx => sources_any b (n + W) c _ _ i wx hx hA (by omega) (by omega) (by omega))
  have hu : ∀ q, rchB xs W n i q = decide (0 ≤ (parP xs W n i).getD q 0) := fun q => rfl
  have hQ : bfsP (arC (cellOf xs) n) (n + W) i = parP xs W n i := rfl
  rw [hQ] at hsrc
  obtain ⟨M, hM⟩ : ∃ M, n + W = M := ⟨_, rfl⟩
  have eM : (n : Int) + (W : Int) = (M : Int) := by omega
  have ewM : IntKind.i64.wrap (M : Int) = (M : Int) := IntWalk.i64_in _ ⟨by omega, by omega⟩
  have hM12 : M ≤ 12 := by omega
  rw [hM] at harr hsrc ⊢
  generalize rchB xs W n i = u at *
  generalize parP xs W n i = Q at *
  generalize rowsL (arrK xs n n n 0) M = ms at *
  obtain ⟨i0, bi, bz0, bz1, bz2⟩ := info_parts infoFlag
  replace hu := Lib.hid hu
  replace hM := Lib.hid hM
  replace eM := Lib.hid eM
  clear hI hN hl hA hQ
  go_enter Try.func25, Try.ntmps25
  go_wp2_with fail
  rw [← hW0]
  clear hW0
  refine (valid_impl (W : Int) a n cap xs _ r.out hm).mono ?_
  rintro e v4 ⟨rfl, hb⟩
  have szv4 := hb.size
  replace x0 := kept hb (block_lt x0) x0
  replace x1 := kept hb (block_lt x1) x1
  replace r := Lib.hid (r.out.bel hb)
  replace bb := Lib.hid (bb.out.trans (hb.mono bb.out.size))
  rw [hv]
  clear hb
  go_wp2_with fail
  refine (inside_any (W : Int) a n cap i 0 _).mono ?_
  rintro e v5 ⟨rfl, hb⟩
  have szv5 := hb.size
  replace x0 := kept hb (block_lt x0) x0
  replace x1 := kept hb (block_lt x1) x1
  replace r := Lib.hid (r.out.bel hb)
  replace bb := Lib.hid (bb.out.trans (hb.mono bb.out.size))
  rw [hce]
  clear hb
  go_wp2_with ((refine wpList_make_full v5 rfl _ _ 28 rfl v5.heap.size 4 i0 (.bool false) 1 Try.underlying28 bi bz0 bz1 .i64 .i64 M M M (by first | rfl | exact congrArg (Value.int .i64) eM.out) (by first | rfl | exact congrArg (Value.int .i64) eM.out) rfl rfl ?_ ?_ ?_ ?_))
  · rw [bz2]; omega
  · unfold maxLen; omega
  · simp
  intro U0 ho hg
  obtain ⟨g, hgg⟩ : ∃ g, v5.heap.size = g := ⟨_, rfl⟩
  have ho0 : OwnG U0 v5.heap.size (some ⟨v5.heap.size, 0, none⟩) M M (fun _ => false) := by
    unfold OwnG
    have e : (madeCells #[Value.bool false] M).toList = flagsV (fun _ => false) M := by
      rw [toList_madeCells_one]
      unfold flagsV
      apply List.ext_getElem (by simp)
      intro k h1 h2; simp
    rw [← e]; exact ho
  have hb : Below v5.heap.size v5 U0 := (Below.refl _ _).grown hg (Nat.le_refl _) (fun k hk => by cases hk)
  have bz := bb.out.size
  have og : g < U0.heap.size := by rw [← hgg]; rcases ho0.cases with ⟨h, _⟩ | ⟨g', h, _, h2⟩; cases h; cases h; exact h2
  have szU0 := hb.size
  replace x0 := kept hb (block_lt x0) x0
  replace x1 := kept hb (block_lt x1) x1
  replace r := Lib.hid (r.out.bel hb)
  replace bb := Lib.hid (bb.out.trans (hb.mono bb.out.size))
  replace ho0 := Lib.hid (ho0.mono bz)
  rw [hgg] at ho0 ⊢
  have lw : w.heap.size ≤ g := by omega
  clear ho hg hb bz
  go_wp2_with fail
  refine (harr.out _ r.out).mono ?_
  rintro e v6 ⟨⟨g3, rfl, ho⟩, hb⟩
  have szv6 := hb.size
  replace x0 := kept hb (block_lt x0) x0
  replace x1 := kept hb (block_lt x1) x1
  replace r := Lib.hid (r.out.bel hb)
  replace ho0 := Lib.hid (ho0.out.bel hb)
  replace bb := Lib.hid (bb.out.trans (hb.mono bb.out.size))
  have rm := Lib.hid ho.row
  clear ho
  clear hb
  go_wp2_with fail
  refine (hsrc.out _ _ _ rm.out).mono ?_
  rintro e v7 ⟨⟨g1, rfl, ho⟩, hb⟩
  have szv7 := hb.size
  replace x0 := kept hb (block_lt x0) x0
  replace x1 := kept hb (block_lt x1) x1
  replace r := Lib.hid (r.out.bel hb)
  replace rm := Lib.hid (rm.out.bel hb)
  replace ho0 := Lib.hid (ho0.out.bel hb)
  replace bb := Lib.hid (bb.out.trans (hb.mono bb.out.size))
  have qr := Lib.hid ho.row
  have lq1 : v6.heap.size ≤ g1 := (rng_own ho _ rfl).1
  clear ho
  clear hb
  have hgg1 : g1 ≠ g := by have := szv6; omega
  have lq1 : True := trivial
  clear harr hsrc
  have lgg : g < v7.heap.size := by have := szv6; have := szv7; omega
  have hO0 := Lib.hid (ho0.out.ext (v := fun i => decide (i < 0) && u i) fun i _ => by simp)
  clear ho0
  go_wp2_with fail
  go_loopw [30] (fun v wr => ∃ k : Nat, k ≤ M ∧ v = .int .i64 k ∧ Hid (OwnG wr w.heap.size (some ⟨g, 0, none⟩) M M (fun i => decide (i < k) && u i)) ∧ Hid (v7.grownBy wr (some g))) (fun v _ => M - (intOf v).toNat)
  case atStart => exact ⟨0, Nat.zero_le _, rfl, hO0, World.grownBy.refl _ _⟩
  case round =>
    clear hO0
    obtain ⟨k, hk, rfl, hO, hG⟩ := hrel
    obtain ⟨wo, rfl⟩ : ∃ wo : World, wo = wr := ⟨_, rfl⟩
    by_cases hlt : k < M
    case neg =>
      obtain rfl : k = M := by omega
      have bG := Lib.hid (bb.out.trans ((grown_below hG.out).mono (by have := bb.out.size; omega)))
      go_wp2_with fail
      go_ret
      exact ⟨⟨_, _, rfl, hO.out.ext fun i hi => by simp [hi]⟩, bG.out⟩
    have rq := qr.out.apart hG.out (fun b off e hn => by cases e; simp; omega)
    obtain ⟨gq, oq, e, cq⟩ := row_at rq hlt
    cases e
    rw [Nat.zero_add] at cq
    have huk := hu.out k
    generalize Q.getD k 0 = x at cq huk
    have hd := hO.out.cell hlt
    have hf := hO.out.frozen
    have hs := Lib.hid ((hO.out.set k (u k)).ext (v := fun i => decide (i < k + 1) && u i) fun i _ => by
      by_cases e : i = k
      · subst e; rw [if_pos rfl, decide_eq_true (by omega)]; rfl
      · rw [if_neg e]
        by_cases e2 : i < k
        · rw [decide_eq_true e2, decide_eq_true (by omega)]
        · rw [decide_eq_false e2, decide_eq_false (by omega)])
    have hg2 := Lib.hid (grown_set (j := k) (v := .bool (u k)) hG.out)
    rw [huk] at hs hg2
    have hs2 : Hid (OwnG (wo.setCell ⟨g, k, none⟩ (.bool (decide (0 ≤ x)))) w.heap.size (some ⟨g, 0, none⟩) M M (fun i => decide (i < k + 1) && u i)) := hs
    generalize (decide (k < k) && u k) = z at hd
    clear hG hO rq hs
    go_wp2_with fail
    exact ⟨⟨k + 1, by omega, by go_num, hs2, hg2⟩, by simp [intOf]; omega⟩
end Go.Proofs.Ytepeplmbnkjeeaa

