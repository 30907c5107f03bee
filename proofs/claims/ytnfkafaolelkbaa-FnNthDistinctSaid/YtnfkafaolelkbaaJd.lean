/-
  Plain facts: a further row, a further column.
-/
import Derived.Test.YtnfkafaolelkbaaJa
import Derived.Test.YtnfkafaolelkbaaJi
import Derived.Test.YtnfkafaolelkbaaCa
namespace Go.Proofs.Ytnfkafaolelkbaa
set_option maxRecDepth 100000

theorem rs_map {xs : List Int} {W n : Nat} (hl : xs.length = n) : rsL xs W n = xs.map fun x => cntI x W := by
  refine lists_ext (rs_len ..) (by rw [List.length_map, hl]) fun i hi => ?_
  rw [rs_get hi, getD_elem (xs := xs.map fun x => cntI x W) (by rw [List.length_map]; omega), List.getElem_map, getD_elem (by omega)]
theorem lsum_app : ∀ xs ys : List Int, lsum (xs ++ ys) = lsum xs + lsum ys
  | [], ys => by simp [lsum]
  | x :: xs, ys => by rw [List.cons_append]; simp only [lsum]; rw [lsum_app xs ys]; omega
theorem lsum_ins (k : Nat) (m : Int) (xs : List Int) : lsum (insL k m xs) = m + lsum xs := by
  unfold insL
  rw [lsum_app]
  simp only [lsum]
  have := lsum_app (xs.take k) (xs.drop k)
  rw [List.take_append_drop] at this
  omega
theorem csI_ins {xs : List Int} {n k : Nat} (m : Int) (j : Nat) (hl : xs.length = n) (hk : k ≤ n) : csI (insL k m xs) j (n + 1) = bitI m j + csI xs j n := by
  have e := ins_len m (xs := xs) (k := k) (by omega)
  rw [hl] at e
  have h1 := csI_map (insL k m xs) j
  have h2 := csI_map xs j
  rw [e] at h1
  rw [hl] at h2
  rw [h1, h2, ins_map, lsum_ins]
theorem ins_mem {xs : List Int} {W n k : Nat} {m : Int} (h0 : 0 ≤ m) (h1 : m ≤ pw W - 1) (hk : k ≤ n) (hx : xs ∈ imgs W n) : insL k m xs ∈ imgs W (n + 1) := by
  obtain ⟨hl, hr⟩ := imgs_mem.1 hx
  refine imgs_mem.2 ⟨by rw [ins_len m (by omega), hl], fun i hi => ?_⟩
  have all : ∀ x, x ∈ insL k m xs → 0 ≤ x ∧ x ≤ pw W - 1 := by
    intro x hm
    have hall : ∀ y, y ∈ xs → 0 ≤ y ∧ y ≤ pw W - 1 := fun y hy => by
      obtain ⟨i, hi, e⟩ := List.getElem_of_mem hy
      have := hr i (by omega)
      rwa [getD_elem hi, e] at this
    unfold insL at hm
    rcases List.mem_append.1 hm with a | a
    · exact hall x (List.mem_of_mem_take a)
    · rcases List.mem_cons.1 a with b | b
      · subst b; exact ⟨h0, h1⟩
      · exact hall x (List.mem_of_mem_drop b)
  have hi' : i < (insL k m xs).length := by rw [ins_len m (by omega)]; omega
  rw [getD_elem hi']
  exact all _ (List.getElem_mem hi')
theorem del_mem {xs : List Int} {W n k : Nat} (hk : k < n + 1) (hx : xs ∈ imgs W (n + 1)) : delL k xs ∈ imgs W n ∧ 0 ≤ xs.getD k 0 ∧ xs.getD k 0 ≤ pw W - 1 := by
  obtain ⟨hl, hr⟩ := imgs_mem.1 hx
  have hall : ∀ y, y ∈ xs → 0 ≤ y ∧ y ≤ pw W - 1 := fun y hy => by
    obtain ⟨i, hi, e⟩ := List.getElem_of_mem hy
    have := hr i (by omega)
    rwa [getD_elem hi, e] at this
  have hd := del_len (xs := xs) (k := k) (by omega)
  refine ⟨imgs_mem.2 ⟨by omega, fun i hi => ?_⟩, hr k hk⟩
  rw [getD_elem (by omega)]
  have hm := List.getElem_mem (l := delL k xs) (n := i) (by omega)
  unfold delL at hm ⊢
  rcases List.mem_append.1 hm with a | a
  · exact hall _ (List.mem_of_mem_take a)
  · exact hall _ (List.mem_of_mem_drop a)
/-- A further row that the sums leave no choice for. -/
theorem cnt_ins {rows cols cols' : List Int} {k : Nat} {r m : Int} (hc : cols'.length = cols.length) (hk : k ≤ rows.length) (h0 : 0 ≤ m) (h1 : m ≤ pw cols.length - 1) (hr : cntI m cols.length = r)
    (hu : ∀ x, 0 ≤ x → x ≤ pw cols.length - 1 → cntI x cols.length = r → x = m) (hb : ∀ j, j < cols.length → cols'.getD j 0 = cols.getD j 0 + bitI m j) :
    cntS (insL k r rows) cols' = cntS rows cols := by
  have el := ins_len r hk
  unfold cntS
  rw [el, hc]
  have key : ∀ ys, ys ∈ imgs cols.length rows.length → (fitP (insL k r rows) cols' cols.length (rows.length + 1) (insL k m ys) = true ↔ fitP rows cols cols.length rows.length ys = true) := by
    intro ys hy
    obtain ⟨hl, _⟩ := imgs_mem.1 hy
    rw [fitP_iff, fitP_iff, rs_map (by rw [ins_len m (by omega), hl]), rs_map hl, ins_map, ins_inj (by rw [List.length_map, hl]), cs_iff hc, cs_iff rfl]
    constructor
    · rintro ⟨⟨_, a⟩, b⟩
      refine ⟨a, fun j hj => ?_⟩
      have := b j hj
      rw [csI_ins m j hl hk, hb j hj] at this
      omega
    · rintro ⟨a, b⟩
      refine ⟨⟨hr, a⟩, fun j hj => ?_⟩
      rw [csI_ins m j hl hk, hb j hj, b j hj]
      omega
  refine nOf_eq (delL k) (insL k m) (fun xs hx hp => ?_) fun ys hy hp => ?_
  · obtain ⟨hl, _⟩ := imgs_mem.1 hx
    obtain ⟨hd, hx0, hx1⟩ := del_mem (k := k) (by omega) hx
    have e := ins_del (xs := xs) (k := k) (by omega)
    have em : xs.getD k 0 = m := by
      refine hu _ hx0 hx1 ?_
      have h2 := (fitP_iff.1 hp).1
      rw [rs_map hl, ← e, ins_map, ins_inj (by rw [List.length_map]; have := del_len (xs := xs) (k := k) (by omega); omega)] at h2
      exact h2.1
    rw [em] at e
    exact ⟨hd, (key _ hd).1 (by rw [e]; exact hp), e⟩
  · obtain ⟨hl, _⟩ := imgs_mem.1 hy
    exact ⟨ins_mem h0 h1 hk hy, (key ys hy).2 hp, (del_ins m (by omega)).1⟩
theorem cnt_bits (x : Int) : ∀ W, (cntI x W = 0 → ∀ j, j < W → bitI x j = 0) ∧ (cntI x W = W → ∀ j, j < W → bitI x j = 1)
  | 0 => ⟨fun _ j hj => absurd hj (Nat.not_lt_zero j), fun _ j hj => absurd hj (Nat.not_lt_zero j)⟩
  | W + 1 => by
    have ih := cnt_bits x W
    have hb := cnt_bd x W
    have hp : bitI x W = 0 ∨ bitI x W = 1 := by unfold bitI; omega
    simp only [cntI]
    constructor
    · intro h j hj
      by_cases e : j = W
      · subst e; omega
      · exact ih.1 (by omega) j (by omega)
    · intro h j hj
      by_cases e : j = W
      · subst e; omega
      · exact ih.2 (by omega) j (by omega)
theorem bit_naught (j : Nat) : bitI 0 j = 0 := by simp [bitI]
theorem full_bits : ∀ W, W < 7 → (∀ j, j < W → bitI (pw W - 1) j = 1) ∧ cntI (pw W - 1) W = W := by decide +kernel
theorem cnt_zeroI : ∀ W, cntI 0 W = 0
  | 0 => rfl
  | W + 1 => by simp only [cntI]; rw [cnt_zeroI W, bit_naught]; rfl
/-- A row without a set cell. -/
theorem cnt_row0 {rows cols : List Int} (hs : sumsB rows cols = true) {k : Nat} (hk : k ≤ rows.length) : cntS (insL k 0 rows) cols = cntS rows cols := by
  obtain ⟨_, ⟨_, d⟩, _⟩ := sumsB_parts hs
  have hp := pw_pos cols.length
  refine cnt_ins (m := 0) rfl hk (Int.le_refl _) (by omega) (cnt_zeroI _) (fun x h0 h1 h => ?_) fun j _ => by rw [bit_naught]; omega
  exact bits_ext d ⟨h0, h1⟩ ⟨Int.le_refl _, by omega⟩ fun j hj => by rw [(cnt_bits x _).1 h j hj, bit_naught]
/-- A row of set cells. -/
theorem cnt_row1 {rows cols : List Int} (hs : sumsB rows cols = true) {k : Nat} (hk : k ≤ rows.length) : cntS (insL k (cols.length : Int) rows) (cols.map (· + 1)) = cntS rows cols := by
  obtain ⟨_, ⟨_, d⟩, _⟩ := sumsB_parts hs
  have hp := pw_pos cols.length
  have hf := full_bits cols.length (by omega)
  refine cnt_ins (m := pw cols.length - 1) (by rw [List.length_map]) hk (by omega) (Int.le_refl _) hf.2 (fun x h0 h1 h => ?_) fun j hj => ?_
  · exact bits_ext d ⟨h0, h1⟩ ⟨by omega, Int.le_refl _⟩ fun j hj => by rw [(cnt_bits x _).2 h j hj, hf.1 j hj]
  · rw [hf.1 j hj, getD_elem (by rw [List.length_map]; exact hj), List.getElem_map, getD_elem hj]
/-- A column without a set cell. -/
theorem cnt_col0 {rows cols : List Int} (hs : sumsB rows cols = true) {k : Nat} (hk : k ≤ cols.length) (hs' : sumsB rows (insL k 0 cols) = true) : cntS rows (insL k 0 cols) = cntS rows cols := by
  rw [← cnt_turn hs', cnt_row0 (sumsB_flip hs) hk, cnt_turn hs]
theorem ins_end {α : Type} (m : α) (xs : List α) : insL xs.length m xs = xs ++ [m] := by simp [insL]

end Go.Proofs.Ytnfkafaolelkbaa

