/-
  Plain facts: just one image has the same sums if there is no switch.
-/
import Derived.Test.YtnfkafaolelkbaaNe
import Derived.Test.YtnfkafaolelkbaaMn
namespace Go.Proofs.Ytnfkafaolelkbaa
set_option maxRecDepth 100000

theorem num_of (W : Nat) (x : Int) (n : Nat) : ∀ k, k ≤ n → numI (digL W n x) W k = x % pw (k * W)
  | 0, _ => by simp [numI, pw]
  | k + 1, hk => by
    have ih := num_of W x n k (by omega)
    have hp := pw_pos (k * W)
    have hq := pw_pos W
    have e : pw ((k + 1) * W) = pw (k * W) * pw W := by rw [Nat.add_mul, Nat.one_mul, pw_add]
    simp only [numI]
    unfold digL at ih ⊢
    rw [ih, rows_get (digI W x) (by omega), e]
    unfold digI
    generalize pw (k * W) = A at *
    generalize pw W = B at *
    have h1 : x / A / B = x / (A * B) := Int.ediv_ediv_of_nonneg (by omega)
    have h2 := Int.emod_add_mul_ediv x A
    have h3 := Int.emod_add_mul_ediv (x / A) B
    have h4 := Int.emod_add_mul_ediv x (A * B)
    rw [h1] at h3
    have h5 : x / A * A = x / A % B * A + B * (x / (A * B)) * A := by rw [← Int.add_mul, h3]
    have h6 : B * (x / (A * B)) * A = A * B * (x / (A * B)) := by
      rw [Int.mul_comm, Int.mul_assoc]
    have h7 : x / A * A = A * (x / A) := Int.mul_comm _ _
    omega
theorem dig_inj {W n : Nat} {x y : Nat} (hx : (x : Int) < pw (n * W)) (hy : (y : Int) < pw (n * W)) (h : digL W n x = digL W n y) : x = y := by
  have h1 := num_of W x n n (Nat.le_refl _)
  have h2 := num_of W y n n (Nat.le_refl _)
  rw [h, h2, Int.emod_eq_of_lt (by omega) hx, Int.emod_eq_of_lt (by omega) hy] at h1
  omega
theorem small_pair {xs : List Int} {W n : Nat} : ∀ K : Nat, (K : Int) ≤ pw (n * W) → (smallL xs W n K).Pairwise (fun a b => a ≠ b)
  | 0, _ => List.Pairwise.nil
  | K + 1, h => by
    have ih := small_pair (xs := xs) (W := W) (n := n) K (by omega)
    rw [smallL]
    split
    · rw [List.pairwise_append]
      refine ⟨ih, List.pairwise_singleton _ _, fun a ha b hb e => ?_⟩
      obtain ⟨x, hx, rfl, _⟩ := small_mem.1 ha
      rw [List.mem_singleton] at hb
      rw [hb] at e
      have := dig_inj (by omega) (by omega) e
      omega
    · rw [List.append_nil]; exact ih
/-- Just one image has the same sums: there is no switch. -/
theorem small_one {W n : Nat} {xs : List Int} (h : Im W n xs) : (smallL xs W n (pw (n * W)).toNat).length = 1 ↔ swL (cellOf xs) W n = [] := by
  have mem : ∀ {ys : List Int}, Im W n ys → SumE xs ys W n → ys ∈ smallL xs W n (pw (n * W)).toNat := fun {ys} hy hs => by
    have hd := dig_num hy
    obtain ⟨x, hx⟩ := Int.eq_ofNat_of_zero_le hd.1
    rw [hx] at hd
    exact small_mem.2 ⟨x, by omega, hd.2.2.symm, h.same hy hs.1 hs.2⟩
  have back : ∀ {L : List Int}, L ∈ smallL xs W n (pw (n * W)).toNat → Im W n L ∧ SumE xs L W n := fun {L} hL => by
    obtain ⟨x, hx, rfl, hs⟩ := small_mem.1 hL
    have hI := dig_im h.w1 h.w6 h.l1 h.l6 (x : Int)
    obtain ⟨K, eK, _, _, _, _, hse⟩ := same_im h.hl hI.hl hs
    obtain rfl : W = K := by omega
    exact ⟨hI, hse⟩
  have hx := mem h ⟨rfl, rfl⟩
  rw [uniq_iff h]
  constructor
  · intro e ys hy hs
    obtain ⟨L, hL⟩ := List.length_eq_one_iff.1 e
    have m2 := mem hy hs
    rw [hL, List.mem_singleton] at hx m2
    rw [m2, hx]
  · intro hall
    have hp := small_pair (xs := xs) (W := W) (n := n) (pw (n * W)).toNat (by have := pw_pos (n * W); omega)
    match hm : smallL xs W n (pw (n * W)).toNat with
    | [] => rw [hm] at hx; cases hx
    | [a] => rfl
    | a :: b :: l =>
      rw [hm] at hp
      have e1 := back (L := a) (by rw [hm]; exact List.mem_cons_self ..)
      have e2 := back (L := b) (by rw [hm]; exact List.mem_cons_of_mem _ (List.mem_cons_self ..))
      have h1 := hall a e1.1 e1.2
      have h2 := hall b e2.1 e2.2
      exact absurd (h1.trans h2.symm) ((List.pairwise_cons.1 hp).1 b (List.mem_cons_self ..))
end Go.Proofs.Ytnfkafaolelkbaa

