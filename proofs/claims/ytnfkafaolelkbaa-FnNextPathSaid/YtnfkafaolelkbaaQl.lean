/-
  A switch is appended to a list of switches that the call owns: the list lies where it lay, or in new memory.
-/
import Derived.Test.YtnfkafaolelkbaaKl
import Derived.Test.YtnfkafaolelkbaaVa
import Derived.Deep.AppendLies
namespace Go.Proofs.Ytnfkafaolelkbaa
set_option maxRecDepth 100000
open Go.RowKit

theorem ones_four (A B C D : Int) : ∀ u ∈ [A, B, C, D].map (Value.int .i64), u.oneCell' = true := by
  intro u hu
  simp at hu
  rcases hu with rfl | rfl | rfl | rfl <;> rfl
theorem news_four {w : World} {k : Nat} {A B C D : Int} (c0 : w.cell? ⟨k, 0, none⟩ = some (.int .i64 A)) (c1 : w.cell? ⟨k, 1, none⟩ = some (.int .i64 B)) (c2 : w.cell? ⟨k, 2, none⟩ = some (.int .i64 C)) (c3 : w.cell? ⟨k, 3, none⟩ = some (.int .i64 D)) :
    ∀ j u, ([A, B, C, D].map (Value.int .i64))[j]? = some u → w.cell? (Addr.add ⟨k, 0, none⟩ j) = some u := by
  intro j u hj
  match j, hj with
  | 0, hj | 1, hj | 2, hj | 3, hj => simp at hj; subst hj; simp [Addr.add, c0, c1, c2, c3]
theorem wpList_append_sw {w : World} {ops : Array Oper} {rest : List Oper} {o : Oper} {a : Act} {Q : Exit → Act → World → Prop} (hgd : o.guard = none) (s x : Operand)
    (ho : o.op = .call { callee := .builtin .append, args := #[s, x], argTypes := #[45, 45] })
    (base g N c : Nat) (F : List Int) (hs : a.eval s = .slice (some ⟨g, 0, none⟩) N c) (hown : w.ownsRow base 97 4 (.slice (some ⟨g, 0, none⟩) N c) N (F.map (Value.int .i64)))
    (k : Nat) (hx : a.eval x = .slice (some ⟨k, 0, none⟩) 1 1) (A B C D : Int) (c0 : w.cell? ⟨k, 0, none⟩ = some (.int .i64 A)) (c1 : w.cell? ⟨k, 1, none⟩ = some (.int .i64 B)) (c2 : w.cell? ⟨k, 2, none⟩ = some (.int .i64 C)) (c3 : w.cell? ⟨k, 3, none⟩ = some (.int .i64 D))
    (hN : N ≤ 1048576) (hbase : base ≤ w.heap.size)
    (h : ∀ g' c' w', w'.ownsRow base 97 4 (.slice (some ⟨g', 0, none⟩) (N + 1) c') (N + 1) ((F ++ [A, B, C, D]).map (Value.int .i64)) → w.grownBy w' (some g) → (g' = g ∨ g' = w.heap.size) → wpList Try.prog ops Q rest (a.put o.dst (.slice (some ⟨g', 0, none⟩) (N + 1) c')) w') :
    wpList Try.prog ops Q (o :: rest) a w := by
  obtain ⟨i0, hi, hz0, hz1, hz2⟩ := info_parts infoSw
  refine wpList_plain hgd fun _ hK => wp_append_lies w s x 45 ho base 97 i0 (.agg #[.int .i64 0, .int .i64 0, .int .i64 0, .int .i64 0]) 4 32 Try.underlying45 hi hz0 hz1 hz2 rfl (by decide) _ N (F.map (Value.int .i64)) hs hown
    ⟨k, 0, none⟩ 1 1 ([A, B, C, D].map (Value.int .i64)) hx rfl (news_four c0 c1 c2 c3) (ones_four A B C D) (by omega) (by unfold maxLen; omega) (by omega) hbase w.heap.size rfl fun g' c' w' h2 h3 h4 _ => hK _ _ (h g' c' w' ?_ ?_ ?_)
  · rw [List.map_append]; exact h2
  · exact h3
  · rcases h4 with h | h
    · left; simp [Value.ownBlock] at h; exact h.symm
    · exact .inr h
/-- The same in a region that draws its order. -/
theorem step_append_sw {w : World} {ops : Array Oper} {o : Oper} {a : Act} {K : Act → World → Prop} {Q : Exit → Act → World → Prop} {E : Prop} (hgd : o.guard = none) (s x : Operand)
    (ho : o.op = .call { callee := .builtin .append, args := #[s, x], argTypes := #[45, 45] })
    (base g N c : Nat) (F : List Int) (hs : a.eval s = .slice (some ⟨g, 0, none⟩) N c) (hown : w.ownsRow base 97 4 (.slice (some ⟨g, 0, none⟩) N c) N (F.map (Value.int .i64)))
    (k : Nat) (hx : a.eval x = .slice (some ⟨k, 0, none⟩) 1 1) (A B C D : Int) (c0 : w.cell? ⟨k, 0, none⟩ = some (.int .i64 A)) (c1 : w.cell? ⟨k, 1, none⟩ = some (.int .i64 B)) (c2 : w.cell? ⟨k, 2, none⟩ = some (.int .i64 C)) (c3 : w.cell? ⟨k, 3, none⟩ = some (.int .i64 D))
    (hN : N ≤ 1048576) (hbase : base ≤ w.heap.size) (H : Nat) (hH : w.heap.size = H)
    (h : ∀ g' c' w', w'.ownsRow base 97 4 (.slice (some ⟨g', 0, none⟩) (N + 1) c') (N + 1) (F.map (Value.int .i64) ++ [A, B, C, D].map (Value.int .i64)) → w.grownBy w' (some g) → (g' = g ∨ g' = H) → K (a.put o.dst (.slice (some ⟨g', 0, none⟩) (N + 1) c')) w') :
    if Region.wanted o (yielded ops a.tmps) = true then Oper.wp Try.prog o a w K Q else E := by
  obtain ⟨i0, hi, hz0, hz1, hz2⟩ := info_parts infoSw
  refine step_append_lies w hgd s x 45 ho base 97 i0 (.agg #[.int .i64 0, .int .i64 0, .int .i64 0, .int .i64 0]) 4 32 Try.underlying45 hi hz0 hz1 hz2 rfl (by decide) _ N (F.map (Value.int .i64)) hs hown
    ⟨k, 0, none⟩ 1 1 ([A, B, C, D].map (Value.int .i64)) hx rfl (news_four c0 c1 c2 c3) (ones_four A B C D) (by omega) (by unfold maxLen; omega) (by omega) hbase H hH fun g' c' w' h2 h3 h4 _ => h g' c' w' h2 h3 ?_
  rcases h4 with h | h
  · left; simp [Value.ownBlock] at h; exact h.symm
  · exact .inr h
/-- A list of switches by numbers. -/
def flatQ (L : List SwQ) : List Int := L.flatMap fun s => [s.1, s.2.1, s.2.2.1, s.2.2.2]
theorem qflat_len (L : List SwQ) : (flatQ L).length = L.length * 4 := by
  unfold flatQ
  induction L with
  | nil => rfl
  | cons s L ih => rw [List.flatMap_cons, List.length_append, ih]; simp; omega
theorem qflat_app (L M : List SwQ) : flatQ (L ++ M) = flatQ L ++ flatQ M := by unfold flatQ; rw [List.flatMap_append]
theorem qflat_one (A B C D : Int) : flatQ [(A, B, C, D)] = [A, B, C, D] := rfl
theorem qflat_cast (L : List SwT) : flatQ (L.map castQ) = flatS L := by
  unfold flatQ flatS
  rw [List.flatMap_map]
  rfl
theorem qflat_get (L : List SwQ) (j : Nat) (h : j < L.length) : (flatQ L).getD (j * 4) 0 = L[j].1 ∧ (flatQ L).getD (j * 4 + 1) 0 = L[j].2.1 ∧ (flatQ L).getD (j * 4 + 2) 0 = L[j].2.2.1 ∧ (flatQ L).getD (j * 4 + 3) 0 = L[j].2.2.2 := by
  induction L generalizing j with
  | nil => simp at h
  | cons s L ih =>
    have e : flatQ (s :: L) = [s.1, s.2.1, s.2.2.1, s.2.2.2] ++ flatQ L := List.flatMap_cons
    rw [e]
    cases j with
    | zero => exact ⟨rfl, rfl, rfl, rfl⟩
    | succ j =>
      have hj := ih j (by simpa using h)
      rw [show (j + 1) * 4 = 4 + j * 4 by omega, show 4 + j * 4 + 1 = 4 + (j * 4 + 1) by omega, show 4 + j * 4 + 2 = 4 + (j * 4 + 2) by omega, show 4 + j * 4 + 3 = 4 + (j * 4 + 3) by omega]
      exact ⟨(getD_right (k := j * 4) rfl).trans hj.1, (getD_right (k := j * 4 + 1) rfl).trans hj.2.1, (getD_right (k := j * 4 + 2) rfl).trans hj.2.2.1, (getD_right (k := j * 4 + 3) rfl).trans hj.2.2.2⟩
/-- A list of switches to be read, wherever it begins. -/
def QRow (w : World) (a : Option Addr) (n : Nat) (L : List SwQ) : Prop :=
  L.length = n ∧ (n = 0 ∨ ∃ b off, a = some ⟨b, off, none⟩ ∧ ∀ q (h : q < L.length), w.cell? ⟨b, off + q * 4, none⟩ = some (.int .i64 L[q].1) ∧ w.cell? ⟨b, off + q * 4 + 1, none⟩ = some (.int .i64 L[q].2.1) ∧ w.cell? ⟨b, off + q * 4 + 2, none⟩ = some (.int .i64 L[q].2.2.1) ∧ w.cell? ⟨b, off + q * 4 + 3, none⟩ = some (.int .i64 L[q].2.2.2))
theorem QRow.bel {w w' : World} {a : Option Addr} {n : Nat} {L : List SwQ} (h : QRow w a n L) (hb : Below w.heap.size w w') : QRow w' a n L :=
  ⟨h.1, h.2.imp id fun ⟨b, off, e, hc⟩ => ⟨b, off, e, fun q hq => by
    have hh := hc q hq
    exact ⟨kept hb (block_lt hh.1) hh.1, kept hb (block_lt hh.2.1) hh.2.1, kept hb (block_lt hh.2.2.1) hh.2.2.1, kept hb (block_lt hh.2.2.2) hh.2.2.2⟩⟩⟩
theorem QRow.apart {w w1 : World} {a : Option Addr} {n g : Nat} {L : List SwQ} (h : QRow w a n L) (hg : w.grownBy w1 (some g)) (hne : ∀ b off, a = some ⟨b, off, none⟩ → 0 < n → b ≠ g) : QRow w1 a n L :=
  ⟨h.1, h.2.imp id fun ⟨b, off, e, hc⟩ => ⟨b, off, e, fun q hq => by
    have hh := hc q hq
    have hn : b ≠ g := hne b off e (by have := h.1; omega)
    exact ⟨hg.cell hh.1 (by simpa using hn), hg.cell hh.2.1 (by simpa using hn), hg.cell hh.2.2.1 (by simpa using hn), hg.cell hh.2.2.2 (by simpa using hn)⟩⟩⟩
theorem QRow.at {w : World} {a : Option Addr} {n : Nat} {L : List SwQ} (h : QRow w a n L) {q : Nat} (hq : q < n) {A B C D : Int} (e : L[q]'(by rw [h.1]; exact hq) = (A, B, C, D)) :
    ∃ b off, a = some ⟨b, off, none⟩ ∧ w.cell? ⟨b, off + q * 4, none⟩ = some (.int .i64 A) ∧ w.cell? ⟨b, off + q * 4 + 1, none⟩ = some (.int .i64 B) ∧ w.cell? ⟨b, off + q * 4 + 2, none⟩ = some (.int .i64 C) ∧ w.cell? ⟨b, off + q * 4 + 3, none⟩ = some (.int .i64 D) := by
  obtain ⟨b, off, ea, hc⟩ := h.2.resolve_left (by omega)
  have hh := hc q (by rw [h.1]; exact hq)
  rw [e] at hh
  exact ⟨b, off, ea, hh⟩
theorem qrow_of {w : World} {B n c : Nat} {a : Option Addr} {L : List SwQ} (h : w.ownsRow B 97 4 (.slice a n c) n ((flatQ L).map (Value.int .i64))) : QRow w a n L := by
  have hl : L.length = n := by
    have := h.1
    rw [List.length_map, qflat_len] at this
    omega
  refine ⟨hl, ?_⟩
  rcases h.2 with ⟨_, h0⟩ | ⟨g, c, cur, e, _⟩
  · exact .inl h0
  · right
    simp only [Value.slice.injEq] at e
    obtain ⟨rfl, _, rfl⟩ := e
    refine ⟨g, 0, rfl, fun q hq => ?_⟩
    have hf := qflat_len L
    have cell : ∀ j, j < n * 4 → w.cell? ⟨g, j, none⟩ = some (.int .i64 ((flatQ L).getD j 0)) := fun j hj => by
      rw [World.ownsRow.cellAt h j (by omega), List.getElem?_map, List.getElem?_eq_getElem (by omega), getD_elem (by omega)]; rfl
    have hg := qflat_get L q hq
    rw [Nat.zero_add]
    exact ⟨by rw [cell _ (by omega), hg.1], by rw [cell _ (by omega), hg.2.1], by rw [cell _ (by omega), hg.2.2.1], by rw [cell _ (by omega), hg.2.2.2]⟩
/-- The numbers of a list that begins a block, one by one. -/
theorem QRow.news {w : World} {b n : Nat} {L : List SwQ} (h : QRow w (some ⟨b, 0, none⟩) n L) : ∀ j u, ((flatQ L).map (Value.int .i64))[j]? = some u → w.cell? (Addr.add ⟨b, 0, none⟩ j) = some u := by
  intro j u hj
  obtain ⟨hl, he⟩ := List.getElem?_eq_some_iff.1 hj
  rw [List.length_map, qflat_len] at hl
  obtain ⟨b', off, e, hc⟩ := h.2.resolve_left (by have := h.1; omega)
  cases e
  have hq := hc (j / 4) (by omega)
  have hg := qflat_get L (j / 4) (by omega)
  rw [List.getElem_map, ← getD_elem (by rw [qflat_len]; omega)] at he
  have ea : Addr.add ⟨b, 0, none⟩ j = ⟨b, j, none⟩ := by simp [Addr.add]; exact Eq.symm
  rw [ea]
  obtain ⟨q, hq'⟩ : ∃ q, j / 4 = q := ⟨_, rfl⟩
  simp only [hq', Nat.zero_add] at hq
  simp only [hq'] at hg
  have hj4 : j = q * 4 ∨ j = q * 4 + 1 ∨ j = q * 4 + 2 ∨ j = q * 4 + 3 := by omega
  rw [← he]
  rcases hj4 with rfl | rfl | rfl | rfl
  · rw [hg.1, hq.1]
  · rw [hg.2.1, hq.2.1]
  · rw [hg.2.2.1, hq.2.2.1]
  · rw [hg.2.2.2, hq.2.2.2]
theorem ones_int (F : List Int) : ∀ u ∈ F.map (Value.int .i64), u.oneCell' = true := by
  intro u hu
  obtain ⟨x, _, rfl⟩ := List.mem_map.1 hu
  rfl
theorem SRow.q {w : World} {a : Option Addr} {n : Nat} {L : List SwT} (h : SRow w a n L) : QRow w a n (L.map castQ) := by
  refine ⟨by rw [List.length_map]; exact h.1, h.2.imp id fun ⟨g, e, hc⟩ => ⟨g, 0, e, fun q hq => ?_⟩⟩
  have hq' : q < L.length := by simpa using hq
  have hh := hc q hq'
  rw [List.getElem_map, Nat.zero_add]
  exact hh
end Go.Proofs.Ytnfkafaolelkbaa

