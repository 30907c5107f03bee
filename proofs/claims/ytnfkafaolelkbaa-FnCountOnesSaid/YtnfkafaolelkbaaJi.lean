/-
  Plain facts on a list with a further element.
-/
import Derived.Test.YtnfkafaolelkbaaEa
namespace Go.Proofs.Ytnfkafaolelkbaa
set_option maxRecDepth 100000

/-- A further element at k. -/
def insL {α : Type} (k : Nat) (m : α) (xs : List α) : List α := xs.take k ++ m :: xs.drop k
theorem ins_len {α : Type} {k : Nat} (m : α) {xs : List α} (hk : k ≤ xs.length) : (insL k m xs).length = xs.length + 1 := by
  simp only [insL, List.length_append, List.length_cons, List.length_take, List.length_drop]; omega
theorem ins_map {α β : Type} (f : α → β) (k : Nat) (m : α) (xs : List α) : (insL k m xs).map f = insL k (f m) (xs.map f) := by
  simp [insL, List.map_take, List.map_drop]
theorem ins_inj {α : Type} {k : Nat} {m m' : α} {xs ys : List α} (hl : xs.length = ys.length) : insL k m xs = insL k m' ys ↔ m = m' ∧ xs = ys := by
  constructor
  · intro h
    simp only [insL] at h
    have h1 := List.append_inj h (by rw [List.length_take, List.length_take, hl])
    have h2 := List.cons.inj h1.2
    refine ⟨h2.1, ?_⟩
    rw [← List.take_append_drop k xs, ← List.take_append_drop k ys, h1.1, h2.2]
  · rintro ⟨a, b⟩; rw [a, b]
/-- Without the element at k. -/
def delL {α : Type} (k : Nat) (xs : List α) : List α := xs.take k ++ xs.drop (k + 1)
theorem del_len {α : Type} {k : Nat} {xs : List α} (hk : k < xs.length) : (delL k xs).length + 1 = xs.length := by
  simp only [delL, List.length_append, List.length_take, List.length_drop]; omega
theorem ins_del {xs : List Int} {k : Nat} (hk : k < xs.length) : insL k (xs.getD k 0) (delL k xs) = xs := by
  unfold insL delL
  have e : (xs.take k).length = k := by rw [List.length_take]; omega
  rw [List.take_append_of_le_length (by omega), List.take_of_length_le (by omega), List.drop_append, e, Nat.sub_self, List.drop_zero, List.drop_of_length_le (l := xs.take k) (by omega), List.nil_append]
  rw [getD_elem hk, List.getElem_cons_drop, List.take_append_drop]
theorem del_ins {xs : List Int} {k : Nat} (m : Int) (hk : k ≤ xs.length) : delL k (insL k m xs) = xs ∧ (insL k m xs).getD k 0 = m := by
  have e : (xs.take k).length = k := by rw [List.length_take]; omega
  have h1 := ins_len m hk
  have h2 := ins_del (xs := insL k m xs) (k := k) (by omega)
  have h3 : (delL k (insL k m xs)).length = xs.length := by have := del_len (xs := insL k m xs) (k := k) (by omega); omega
  have := (ins_inj h3).1 h2
  exact ⟨this.2, this.1⟩

end Go.Proofs.Ytnfkafaolelkbaa

