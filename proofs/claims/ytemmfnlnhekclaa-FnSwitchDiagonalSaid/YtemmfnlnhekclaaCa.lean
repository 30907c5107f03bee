/-
  Plain facts on sums: what columns take, excess, consistent sums.
  The contracts of chapter 4's functions but SumsConsistent: SumsTurn, SumsExcess, of the program and of the model.
  The contracts of the laws' drawing functions of chapter 4.
  The contracts of chapter 4 in the form that the laws use.
-/
import Derived.Test.YtemmfnlnhekclaaPa
import Derived.Test.YtemmfnlnhekclaaEp
import Derived.Test.YtemmfnlnhekclaaK
import Derived.Maps.AppendAt

namespace Go.Proofs.Ytemmfnlnhekclaa
set_option maxRecDepth 100000
open Go.RowKit

/-- How many cells of c rows all columns take. -/
def room (xs : List Int) (c : Int) : Int := sumI (fun j => min (xs.getD j 0) c) xs.length
theorem map_getD {f : Int → Int} {xs : List Int} {i : Nat} (h : i < xs.length) : (xs.map f).getD i 0 = f (xs.getD i 0) := by
  rw [getD_elem (by simpa using h), getD_elem h]; simp
theorem room_map (xs : List Int) (c : Int) : room xs c = lsum (xs.map fun x => min x c) := by
  rw [← psum_all, List.length_map]
  exact sum_ext fun i hi => (map_getD (f := fun x => min x c) hi).symm
theorem room_perm {xs ys : List Int} (h : xs.Perm ys) (c : Int) : room xs c = room ys c := by
  rw [room_map, room_map]; exact lsum_perm (h.map _)
theorem room_bd {xs : List Int} (h : ∀ i, i < xs.length → 0 ≤ xs.getD i 0 ∧ xs.getD i 0 ≤ 6) {c : Int} (hc : 0 ≤ c) : 0 ≤ room xs c ∧ room xs c ≤ 6 * xs.length :=
  sum_small fun i hi => by have := h i hi; (try dsimp only); omega
theorem room_mono (xs : List Int) {c d : Int} (h : c ≤ d) : room xs c ≤ room xs d := sum_le fun i _ => by (try dsimp only); omega
theorem room_zero {xs : List Int} (h : ∀ i, i < xs.length → 0 ≤ xs.getD i 0) : room xs 0 = 0 := by
  unfold room
  rw [sum_ext (g := fun _ => 0) (fun i hi => by have := h i hi; omega), sum_zero]
theorem room_all {xs : List Int} {c : Int} (h : ∀ i, i < xs.length → xs.getD i 0 ≤ c) : room xs c = psum xs xs.length :=
  sum_ext fun i hi => by have := h i hi; omega

theorem top_le {xs : List Int} (h : elB xs = true) {t : Nat} (ht : t ≤ xs.length) (c : Int) : psum (sortL xs) t + room xs c ≤ (t : Int) * c + psum xs xs.length := by
  have h1 := cut_le (sortL xs) c t xs.length ht
  have h2 := room_perm (sort_perm h) c
  have h3 := psum_perm (sort_perm h)
  unfold room at h2
  rw [sort_len h] at h2 h3
  unfold room; omega
theorem top_eq {xs : List Int} (h : elB xs = true) {t : Nat} (ht : t ≤ xs.length) : psum (sortL xs) t + room xs ((sortL xs).getD t 0) = (t : Int) * (sortL xs).getD t 0 + psum xs xs.length := by
  have hP := sort_par h
  have h1 := cut_eq (sortL xs) ((sortL xs).getD t 0) t xs.length ht (fun i hi => hP.mono (by omega)) (fun i hi => hP.mono hi)
  have h2 := room_perm (sort_perm h) ((sortL xs).getD t 0)
  have h3 := psum_perm (sort_perm h)
  unfold room at h2
  rw [sort_len h] at h2 h3
  unfold room; omega
theorem room_at {xs : List Int} (h : elB xs = true) {c : Int} (hc : 0 ≤ c) : ∃ s, s ≤ xs.length ∧ psum (sortL xs) s + room xs c = (s : Int) * c + psum xs xs.length := by
  have hP := sort_par h
  have hl := sort_len h
  obtain ⟨s, hs⟩ : ∃ s : Nat, cge (sortL xs) c = s := ⟨(cge (sortL xs) c).toNat, by have := cge_bd (sortL xs) c; omega⟩
  have hb := (cge_bd (sortL xs) c).2
  refine ⟨s, by omega, ?_⟩
  have h1 := cut_eq (sortL xs) c s xs.length (by omega) (fun i hi => (hP.cge_iff (c := c) (i := i) (by omega)).1 (by omega)) (fun i hi => by
    by_cases e : i < (sortL xs).length
    · have := mt (hP.cge_iff (c := c) e).2 (by omega); omega
    · rw [getD_out (by omega)]; exact hc)
  have h2 := room_perm (sort_perm h) c
  have h3 := psum_perm (sort_perm h)
  unfold room at h2
  rw [hl] at h2 h3
  unfold room; omega

/-- The greatest excess of the first t greatest rows, for t from 0 to k. -/
def exI (p cols : List Int) : Nat → Int
  | 0 => 0
  | t + 1 => max (exI p cols t) (psum p (t + 1) - room cols ((t : Int) + 1))
theorem exI_le {p cols : List Int} {k : Nat} {e : Int} : exI p cols k ≤ e ↔ 0 ≤ e ∧ ∀ t : Nat, 1 ≤ t → t ≤ k → psum p t - room cols t ≤ e := by
  induction k with
  | zero => exact ⟨fun h => ⟨h, fun t h1 h2 => by omega⟩, fun h => h.1⟩
  | succ k ih =>
    simp only [exI]
    constructor
    · intro h
      have h1 := ih.1 (by omega)
      refine ⟨h1.1, fun t ht hk => ?_⟩
      by_cases e : t = k + 1
      · subst e; rw [Int.natCast_add]; simp only [Int.natCast_one]; omega
      · exact h1.2 t ht (by omega)
    · intro h
      have h1 := ih.2 ⟨h.1, fun t ht hk => h.2 t ht (by omega)⟩
      have h2 := h.2 (k + 1) (by omega) (Nat.le_refl _)
      rw [Int.natCast_add] at h2
      simp only [Int.natCast_one] at h2
      omega
theorem exI_nn (p cols : List Int) (k : Nat) : 0 ≤ exI p cols k := by
  induction k with
  | zero => exact Int.le_refl _
  | succ k ih => simp only [exI]; omega
/-- The excess of valid sums. -/
def excI (rows cols : List Int) : Int := exI (sortL rows) cols rows.length
def excOf (rows cols : List Int) : Int := if sumsB rows cols = true then excI rows cols else -1
theorem excOf_yes {rows cols : List Int} (h : sumsB rows cols = true) : excOf rows cols = excI rows cols := if_pos h
theorem excOf_no {rows cols : List Int} (h : sumsB rows cols = false) : excOf rows cols = -1 := by rw [excOf, h]; rfl
theorem eq_of_le {a b : Int} (h : ∀ e, a ≤ e ↔ b ≤ e) : a = b := by
  have h1 := (h b).2 (Int.le_refl _)
  have h2 := (h a).1 (Int.le_refl _)
  omega
theorem sums_el {xs ys : List Int} (h : sumsB xs ys = true) : elB xs = true ∧ elB ys = true := by
  have hp := sumsB_parts h
  constructor
  · rw [el_in hp.1.2]; exact allIn_iff.2 fun i hi => by have := hp.2.2.1 i hi; omega
  · rw [el_in hp.2.1.2]; exact allIn_iff.2 fun i hi => by have := hp.2.2.2 i hi; omega
/-- Excess, said of both directions alike. -/
theorem excI_le {xs ys : List Int} (h : sumsB xs ys = true) {e : Int} : excI xs ys ≤ e ↔ 0 ≤ e ∧ ∀ t s : Nat, t ≤ xs.length → s ≤ ys.length → psum (sortL xs) t + psum (sortL ys) s ≤ (s : Int) * t + psum ys ys.length + e := by
  obtain ⟨hx, hy⟩ := sums_el h
  unfold excI
  rw [exI_le]
  constructor
  · rintro ⟨h0, h1⟩
    refine ⟨h0, fun t s ht hs => ?_⟩
    have h2 := top_le hy hs (t : Int)
    by_cases e0 : t = 0
    · subst e0
      have h3 := room_zero (xs := ys) (fun i hi => ((el_parts hy).2 i hi).1)
      rw [show ((0 : Nat) : Int) = 0 from rfl] at *
      rw [psum_zero]
      omega
    · have := h1 t (by omega) ht; omega
  · rintro ⟨h0, h1⟩
    refine ⟨h0, fun t _ ht => ?_⟩
    obtain ⟨s, hs, h2⟩ := room_at hy (show (0 : Int) ≤ t by omega)
    have := h1 t s ht hs
    omega
theorem excI_flip {xs ys : List Int} (h : sumsB xs ys = true) (ht : psum xs xs.length = psum ys ys.length) : excI ys xs = excI xs ys := by
  refine eq_of_le fun e => ?_
  rw [excI_le h, excI_le (sumsB_flip h)]
  constructor
  · rintro ⟨h0, h1⟩
    exact ⟨h0, fun t s h2 h3 => by have := h1 s t h3 h2; rw [Int.mul_comm (s : Int)]; omega⟩
  · rintro ⟨h0, h1⟩
    exact ⟨h0, fun t s h2 h3 => by have := h1 s t h3 h2; rw [Int.mul_comm (s : Int)]; omega⟩
theorem excI_total {xs ys : List Int} (h : sumsB xs ys = true) : excI xs ys ≤ psum xs xs.length := by
  have hx := (sums_el h).1
  have hy := (sums_el h).2
  have hP := sort_par hx
  have h3 := psum_perm (sort_perm hx)
  rw [sort_len hx] at h3
  unfold excI
  rw [exI_le]
  constructor
  · rw [← h3]; exact (hP.psum_bd _).1
  · intro t _ ht
    have h1 := hP.psum_mono ht
    have h2 := (room_bd (xs := ys) (fun i hi => (el_parts hy).2 i hi) (show (0 : Int) ≤ t by omega)).1
    omega

/-- Consistent sums. -/
def conB (rows cols : List Int) : Bool := sumsB rows cols && belowB (sortL cols) (conjL (sortL rows) cols.length)
theorem conB_no {rows cols : List Int} (h : sumsB rows cols = false) : conB rows cols = false := by rw [conB, h]; rfl
theorem conB_in {rows cols : List Int} (h : sumsB rows cols = true) : conB rows cols = belowB (sortL cols) (conjL (sortL rows) cols.length) := by rw [conB, h]; rfl
theorem conB_valid {rows cols : List Int} (h : conB rows cols = true) : sumsB rows cols = true := by
  rw [conB, Bool.and_eq_true] at h; exact h.1
theorem conB_iff {xs ys : List Int} (h : sumsB xs ys = true) : conB xs ys = true ↔ psum xs xs.length = psum ys ys.length ∧ excI xs ys = 0 := by
  obtain ⟨hx, hy⟩ := sums_el h
  have hp := sumsB_parts h
  have hP := sort_par hx
  have hQ := sort_par hy
  have lx := sort_len hx
  have ly := sort_len hy
  have tx := psum_perm (sort_perm hx)
  have ty := psum_perm (sort_perm hy)
  have hb : ∀ i, i < (sortL xs).length → (sortL xs).getD i 0 ≤ ys.length := fun i hi => by
    rw [getD_elem hi]
    have hm := (sort_perm hx).mem_iff.1 (List.getElem_mem hi)
    obtain ⟨j, hj, e⟩ := List.getElem_of_mem hm
    have := (hp.2.2.1 j hj).2
    rw [getD_elem hj] at this; omega
  have hC := hP.conj (n := ys.length) hp.2.1.2
  have hk : ∀ K, K ≤ ys.length → psum (conjL (sortL xs) ys.length) K = room xs K := fun K hK => by
    rw [conj_psum (fun i => (hP.bd' i).1) hK]; exact room_perm (sort_perm hx) K
  have hT := hP.conj_total hb
  have c6 : psum (conjL (sortL xs) ys.length) 6 = psum xs xs.length := by
    rw [psum_past (by rw [conj_len]; exact hp.2.1.2), conj_len, hT, tx]
  have q6 : psum (sortL ys) 6 = psum ys ys.length := by
    rw [psum_past (by rw [ly]; exact hp.2.1.2), ty]
  rw [conB_in h]
  constructor
  · intro e
    have B := Bel.of e
    have et : psum xs xs.length = psum ys ys.length := by have := B.s; omega
    refine ⟨et, ?_⟩
    rw [← excI_flip h et]
    have h1 : excI ys xs ≤ 0 := by
      unfold excI
      rw [exI_le]
      refine ⟨Int.le_refl _, fun t _ ht => ?_⟩
      have := B.le t
      rw [hk t ht] at this
      omega
    have := exI_nn (sortL ys) xs ys.length
    unfold excI at *
    omega
  · rintro ⟨et, e0⟩
    rw [← excI_flip h et] at e0
    have h1 := exI_le.1 (Int.le_of_eq e0)
    refine below_yes hQ.valid hC.valid (fun k hk6 => ?_) (by omega)
    by_cases e : k ≤ ys.length
    · rw [hk k e]
      by_cases e1 : k = 0
      · subst e1
        have := room_zero (xs := xs) (fun i hi => ((el_parts hx).2 i hi).1)
        rw [show ((0 : Nat) : Int) = 0 from rfl, this, psum_zero]; exact Int.le_refl _
      · have := h1.2 k (by omega) e; omega
    · rw [psum_past (xs := sortL ys) (k := k) (by omega), psum_past (xs := conjL (sortL xs) ys.length) (k := k) (by rw [conj_len]; omega), conj_len, hT, tx, ty]
      omega
theorem bool_iff {a b : Bool} (h : a = true ↔ b = true) : a = b := Bool.eq_iff_iff.2 h
theorem conB_exc {xs ys : List Int} (h : sumsB xs ys = true) : conB xs ys = (decide (excI xs ys = 0) && decide (psum xs xs.length = psum ys ys.length)) := by
  refine bool_iff ?_
  rw [conB_iff h]; simp [and_comm]
theorem conB_flip {xs ys : List Int} (h : conB xs ys = true) : conB ys xs = true := by
  have hv := conB_valid h
  have h1 := (conB_iff hv).1 h
  exact (conB_iff (sumsB_flip hv)).2 ⟨h1.1.symm, by rw [excI_flip hv h1.1]; exact h1.2⟩
theorem conB_total {xs ys : List Int} (h : conB xs ys = true) : psum xs xs.length = psum ys ys.length := ((conB_iff (conB_valid h)).1 h).1

theorem allIn_perm {xs ys : List Int} (h : xs.Perm ys) (lo hi : Int) : allIn xs lo hi = allIn ys lo hi := by
  have key : ∀ {xs ys : List Int}, xs.Perm ys → allIn xs lo hi = true → allIn ys lo hi = true := fun h e => mem_allIn fun x hx => allIn_mem e (h.mem_iff.2 hx)
  exact bool_iff ⟨key h, key h.symm⟩
theorem sumsB_perm {xs ys xs' ys' : List Int} (h : xs.Perm xs') (h' : ys.Perm ys') : sumsB xs ys = sumsB xs' ys' := by
  unfold sumsB; rw [h.length_eq, h'.length_eq, allIn_perm h, allIn_perm h']
/-- The order of sums does not matter. -/
theorem conB_perm {xs ys xs' ys' : List Int} (h : xs.Perm xs') (h' : ys.Perm ys') : conB xs ys = conB xs' ys' := by
  unfold conB; rw [sumsB_perm h h', sort_congr h, sort_congr h', h'.length_eq]

/-- What the sums leave. -/
def restL (xs : List Int) (n : Int) : List Int := rowsL (fun i => n - xs.getD i 0) xs.length
theorem rest_len (xs : List Int) (n : Int) : (restL xs n).length = xs.length := rows_len _ _
theorem rest_get {xs : List Int} {n : Int} {i : Nat} (hi : i < xs.length) : (restL xs n).getD i 0 = n - xs.getD i 0 := rows_get (fun i => n - xs.getD i 0) hi
theorem rest_rest (xs : List Int) (n : Int) : restL (restL xs n) n = xs :=
  lists_ext (n := xs.length) (by rw [rest_len, rest_len]) rfl fun j hj => by
    rw [rest_get (by rw [rest_len]; exact hj), rest_get hj]; omega
theorem sum_const (n : Int) (k : Nat) : sumI (fun _ => n) k = (k : Int) * n := by
  induction k with
  | zero => simp [sumI]
  | succ k ih => simp only [sumI]; rw [ih, Int.natCast_add, Int.add_mul]; simp
theorem rest_total (xs : List Int) (n : Int) : psum (restL xs n) xs.length + psum xs xs.length = (xs.length : Int) * n := by
  unfold psum
  rw [← sum_add, ← sum_const n]
  exact sum_ext fun i hi => by rw [rest_get hi]; omega
theorem rest_valid {xs ys : List Int} (h : sumsB xs ys = true) : sumsB (restL xs ys.length) (restL ys xs.length) = true := by
  have hp := sumsB_parts h
  refine sumsB_5 (by rw [rest_len]; exact inB_yes (by omega) (by omega)) (by rw [rest_len]; exact inB_yes (by omega) (by omega)) (allIn_iff.2 fun i hi => ?_) (allIn_iff.2 fun i hi => ?_)
  · rw [rest_len] at hi; rw [rest_get hi, rest_len]; have := hp.2.2.1 i hi; omega
  · rw [rest_len] at hi; rw [rest_get hi, rest_len]; have := hp.2.2.2 i hi; omega
theorem rest_map (xs : List Int) (n : Int) : restL xs n = xs.map (fun x => n - x) :=
  lists_ext (n := xs.length) (rest_len _ _) (by simp) fun j hj => by rw [rest_get hj, map_getD hj]
theorem rest_sort {xs : List Int} (h : elB xs = true) {n : Int} (h2 : elB (restL xs n) = true) : sortL (restL xs n) = ((sortL xs).map (fun x => n - x)).reverse := by
  symm
  refine sort_unique h2 ?_ ?_
  · refine (List.reverse_perm _).trans ?_
    rw [rest_map]
    exact (sort_perm h).map _
  · rw [List.pairwise_reverse, List.pairwise_map]
    exact (srt_pair xs 7).imp fun {a b} hab => by omega
theorem rev_psum (f : Int → Int) (xs : List Int) {t : Nat} (ht : t ≤ xs.length) : psum ((xs.map f).reverse) t = sumI (fun i => f (xs.getD i 0)) xs.length - sumI (fun i => f (xs.getD i 0)) (xs.length - t) := by
  induction t with
  | zero => rw [psum_zero, Nat.sub_zero]; omega
  | succ t ih =>
    rw [psum_succ, ih (by omega)]
    have h1 : xs.length - t = xs.length - (t + 1) + 1 := by omega
    rw [h1]
    have h2 : ((xs.map f).reverse).getD t 0 = f (xs.getD (xs.length - (t + 1)) 0) := by
      rw [getD_elem (by rw [List.length_reverse, List.length_map]; omega), getD_elem (by omega)]
      simp
      congr 2
      omega
    rw [h2]
    simp only [sumI]
    omega
theorem rest_top {xs : List Int} (h : elB xs = true) {n : Int} (h2 : elB (restL xs n) = true) {t : Nat} (ht : t ≤ xs.length) : psum (sortL (restL xs n)) t + psum xs xs.length = (t : Int) * n + psum (sortL xs) (xs.length - t) := by
  have hl := sort_len h
  have h3 := psum_perm (sort_perm h)
  rw [rest_sort h h2, rev_psum _ _ (by omega), hl]
  have key : ∀ k : Nat, sumI (fun i => n - (sortL xs).getD i 0) k = (k : Int) * n - psum (sortL xs) k := by
    intro k
    have := sum_add (fun i => n - (sortL xs).getD i 0) (fun i => (sortL xs).getD i 0) k
    rw [sum_ext (g := fun _ => n) (fun i _ => by omega), sum_const] at this
    unfold psum; omega
  rw [key, key]
  rw [hl] at h3
  obtain ⟨r, hr⟩ : ∃ r : Nat, xs.length = t + r := ⟨xs.length - t, by omega⟩
  rw [hr] at h3 ⊢
  rw [Nat.add_sub_cancel_left, Int.natCast_add, Int.add_mul]
  omega
/-- The sums of the other cells have the same excess. -/
theorem excI_rest {xs ys : List Int} (h : sumsB xs ys = true) (ht : psum xs xs.length = psum ys ys.length) : excI (restL xs ys.length) (restL ys xs.length) = excI xs ys := by
  have hv := rest_valid h
  obtain ⟨hx, hy⟩ := sums_el h
  obtain ⟨rx, ry⟩ := sums_el hv
  have tx := rest_total xs (ys.length : Int)
  have ty := rest_total ys (xs.length : Int)
  have key : ∀ t s : Nat, t ≤ xs.length → s ≤ ys.length → psum (sortL (restL xs ys.length)) t + psum (sortL (restL ys xs.length)) s - (s : Int) * t - psum (restL ys xs.length) ys.length = psum (sortL xs) (xs.length - t) + psum (sortL ys) (ys.length - s) - ((ys.length - s : Nat) : Int) * ((xs.length - t : Nat) : Int) - psum ys ys.length := by
    intro t s h1 h2
    have e1 := rest_top hx rx h1
    have e2 := rest_top hy ry h2
    obtain ⟨a, ha⟩ : ∃ a : Nat, xs.length = t + a := ⟨xs.length - t, by omega⟩
    obtain ⟨b, hb⟩ : ∃ b : Nat, ys.length = s + b := ⟨ys.length - s, by omega⟩
    rw [show xs.length - t = a by omega] at *
    rw [show ys.length - s = b by omega] at *
    generalize psum (sortL (restL xs ys.length)) t = A at *
    generalize psum (sortL (restL ys xs.length)) s = B at *
    generalize psum (restL ys xs.length) ys.length = C at *
    generalize psum ys ys.length = D at *
    rw [ha, hb] at *
    simp only [Int.natCast_add, Int.mul_add, Int.add_mul] at *
    have c1 := Int.mul_comm (t : Int) s
    have c2 := Int.mul_comm (t : Int) b
    have c3 := Int.mul_comm (a : Int) s
    have c4 := Int.mul_comm (a : Int) b
    omega
  refine eq_of_le fun e => ?_
  rw [excI_le hv, excI_le h]
  rw [rest_len, rest_len]
  constructor
  · rintro ⟨h0, h1⟩
    refine ⟨h0, fun t s h2 h3 => ?_⟩
    have := h1 (xs.length - t) (ys.length - s) (by omega) (by omega)
    have k := key (xs.length - t) (ys.length - s) (by omega) (by omega)
    rw [show xs.length - (xs.length - t) = t by omega, show ys.length - (ys.length - s) = s by omega] at k
    omega
  · rintro ⟨h0, h1⟩
    refine ⟨h0, fun t s h2 h3 => ?_⟩
    have := h1 (xs.length - t) (ys.length - s) (by omega) (by omega)
    have k := key t s h2 h3
    omega
theorem conB_rest {xs ys : List Int} (h : conB xs ys = true) : conB (restL xs ys.length) (restL ys xs.length) = true := by
  have hv := conB_valid h
  have h1 := (conB_iff hv).1 h
  refine (conB_iff (rest_valid hv)).2 ⟨?_, by rw [excI_rest hv h1.1]; exact h1.2⟩
  have tx := rest_total xs (ys.length : Int)
  have ty := rest_total ys (xs.length : Int)
  rw [rest_len, rest_len]
  have := Int.mul_comm (xs.length : Int) ys.length
  omega

theorem tot_set {xs : List Int} {k : Nat} (hk : k < xs.length) (v : Int) : psum (xs.set k v) xs.length = psum xs xs.length + (v - xs.getD k 0) :=
  sum_one hk (by rw [set_getD hk, if_pos rfl]; omega) fun i _ hne => by rw [set_getD hk, if_neg hne]
theorem room_set {xs : List Int} {k : Nat} (hk : k < xs.length) (v c : Int) : room (xs.set k v) c = room xs c + (min v c - min (xs.getD k 0) c) := by
  unfold room
  rw [List.length_set]
  exact sum_one hk (by (try dsimp only); rw [set_getD hk, if_pos rfl]; omega) fun i _ hne => by (try dsimp only); rw [set_getD hk, if_neg hne]
/-- One cell of a sum more. -/
theorem top_more {xs : List Int} (h : elB xs = true) {k : Nat} (hk : k < xs.length) (h2 : elB (xs.set k (xs.getD k 0 + 1)) = true) {t : Nat} (ht : t ≤ xs.length) :
    psum (sortL xs) t ≤ psum (sortL (xs.set k (xs.getD k 0 + 1))) t ∧ psum (sortL (xs.set k (xs.getD k 0 + 1))) t ≤ psum (sortL xs) t + 1 := by
  have hl : (xs.set k (xs.getD k 0 + 1)).length = xs.length := List.length_set
  have e1 := top_eq h ht
  have e2 := top_eq h2 (t := t) (by omega)
  have l1 := top_le h ht ((sortL (xs.set k (xs.getD k 0 + 1))).getD t 0)
  have l2 := top_le h2 (t := t) (by omega) ((sortL xs).getD t 0)
  have ht := tot_set hk (xs.getD k 0 + 1)
  rw [hl] at e2 l2
  rw [room_set hk] at e2 l2
  generalize (sortL (xs.set k (xs.getD k 0 + 1))).getD t 0 = c at *
  generalize (sortL xs).getD t 0 = d at *
  omega
theorem more_valid {xs ys : List Int} (h : sumsB xs ys = true) {k : Nat} (hk : k < xs.length) (hb : xs.getD k 0 < ys.length) : sumsB (xs.set k (xs.getD k 0 + 1)) ys = true := by
  have hp := sumsB_parts h
  refine sumsB_5 (by rw [List.length_set]; exact inB_yes (by omega) (by omega)) (inB_yes (by omega) (by omega)) (allIn_iff.2 fun i hi => ?_) (allIn_iff.2 fun i hi => ?_)
  · rw [List.length_set] at hi
    rw [set_getD hk]
    have := hp.2.2.1 i hi
    have := hp.2.2.1 k hk
    split <;> omega
  · rw [List.length_set]; exact hp.2.2.2 i hi
theorem exI_step {p q ys : List Int} {k : Nat} (h : ∀ t, t ≤ k → psum p t ≤ psum q t ∧ psum q t ≤ psum p t + 1) : exI p ys k ≤ exI q ys k ∧ exI q ys k ≤ exI p ys k + 1 := by
  induction k with
  | zero => simp only [exI]; omega
  | succ k ih => have h1 := ih fun t ht => h t (by omega); have h2 := h (k + 1) (Nat.le_refl _); simp only [exI]; omega
/-- A greater row sum has no less excess. -/
theorem excI_more {xs ys : List Int} (h : sumsB xs ys = true) {k : Nat} (hk : k < xs.length) (hb : xs.getD k 0 < ys.length) :
    excI xs ys ≤ excI (xs.set k (xs.getD k 0 + 1)) ys ∧ excI (xs.set k (xs.getD k 0 + 1)) ys ≤ excI xs ys + 1 := by
  have h2 := more_valid h hk hb
  unfold excI
  rw [List.length_set]
  exact exI_step fun t ht => top_more (sums_el h).1 hk (sums_el h2).1 ht

/-- One cell moves from a column to one that has two less. -/
def flatter (ys : List Int) (k l : Nat) : List Int := (ys.set k (ys.getD k 0 - 1)).set l (ys.getD l 0 + 1)
theorem conB_flat {xs ys : List Int} (h : conB xs ys = true) {k l : Nat} (hk : k < ys.length) (hl : l < ys.length) (h2 : ys.getD l 0 + 2 ≤ ys.getD k 0) : conB xs (flatter ys k l) = true := by
  have hv := conB_valid h
  have hc := (conB_iff hv).1 h
  have hp := sumsB_parts hv
  have hkl : l ≠ k := by rintro rfl; omega
  have e1 : (flatter ys k l).length = ys.length := by simp [flatter]
  have hl' : l < (ys.set k (ys.getD k 0 - 1)).length := by simpa using hl
  have g1 : (ys.set k (ys.getD k 0 - 1)).getD l 0 = ys.getD l 0 := by rw [set_getD hk, if_neg hkl]
  have bk := hp.2.2.2 k hk
  have bl := hp.2.2.2 l hl
  have hv2 : sumsB xs (flatter ys k l) = true := by
    refine sumsB_5 (inB_yes (by omega) (by omega)) (by rw [e1]; exact inB_yes (by omega) (by omega)) (allIn_iff.2 fun i hi => ?_) (allIn_iff.2 fun i hi => ?_)
    · rw [e1]; exact hp.2.2.1 i hi
    · rw [e1] at hi
      have := hp.2.2.2 i hi
      rw [flatter, set_getD hl', set_getD hk]
      split
      · omega
      · split <;> omega
  have t1 : psum (flatter ys k l) ys.length = psum ys ys.length := by
    have a1 := tot_set hk (ys.getD k 0 - 1)
    have a2 := tot_set hl' (ys.getD l 0 + 1)
    rw [g1, List.length_set] at a2
    unfold flatter; omega
  refine (conB_iff hv2).2 ⟨by rw [e1, t1]; exact hc.1, ?_⟩
  have h3 : excI xs (flatter ys k l) ≤ 0 := by
    unfold excI
    rw [exI_le]
    refine ⟨Int.le_refl _, fun t h1 ht => ?_⟩
    have h4 := (exI_le.1 (Int.le_of_eq hc.2)).2 t h1 ht
    have a1 := room_set hk (ys.getD k 0 - 1) (t : Int)
    have a2 := room_set hl' (ys.getD l 0 + 1) (t : Int)
    rw [g1] at a2
    unfold flatter
    omega
  have := exI_nn (sortL xs) (flatter ys k l) xs.length
  unfold excI at *
  omega

theorem app_getD (xs : List Int) (i : Nat) : (xs ++ [0]).getD i 0 = xs.getD i 0 := by
  by_cases h : i < xs.length
  · rw [getD_elem (by simp; omega), getD_elem h, List.getElem_append_left h]
  · rw [getD_out (xs := xs) (by omega)]
    by_cases e : i = xs.length
    · subst e; rw [getD_elem (by simp)]; simp
    · rw [getD_out (by simp; omega)]
theorem app_psum (xs : List Int) (k : Nat) : psum (xs ++ [0]) k = psum xs k := sum_ext fun i _ => app_getD xs i
theorem sort_app {xs : List Int} (h : elB xs = true) (h2 : elB (xs ++ [0]) = true) : sortL (xs ++ [0]) = sortL xs ++ [0] := by
  symm
  refine sort_unique h2 ((sort_perm h).append_right _) ?_
  rw [List.pairwise_append]
  refine ⟨srt_pair xs 7, List.pairwise_singleton _ _, fun a ha b hb => ?_⟩
  have : b = 0 := by simpa using hb
  have := allIn_mem (el_all h) ((sort_perm h).mem_iff.1 ha)
  omega
/-- An empty row changes nothing. -/
theorem conB_zero {xs ys : List Int} (h : conB xs ys = true) : conB (xs ++ [0]) ys = decide (xs.length < 6) := by
  have hv := conB_valid h
  have hc := (conB_iff hv).1 h
  have hp := sumsB_parts hv
  have hl : (xs ++ [0]).length = xs.length + 1 := by simp
  by_cases h6 : xs.length < 6
  case neg =>
    rw [decide_eq_false h6]
    refine conB_no (sumsB_1 ?_)
    rw [hl, Bool.eq_false_iff]
    intro e
    have := inB_iff.1 e
    omega
  rw [decide_eq_true h6]
  have hv2 : sumsB (xs ++ [0]) ys = true := by
    refine sumsB_5 (by rw [hl]; exact inB_yes (by omega) (by omega)) (inB_yes (by omega) (by omega)) (allIn_iff.2 fun i hi => ?_) (allIn_iff.2 fun i hi => ?_)
    · rw [app_getD]
      by_cases e : i < xs.length
      · exact hp.2.2.1 i e
      · rw [getD_out (by omega)]; omega
    · rw [hl]; have := hp.2.2.2 i hi; omega
  refine (conB_iff hv2).2 ⟨?_, ?_⟩
  · rw [hl, app_psum, psum_past (by omega)]; exact hc.1
  have hx := (sums_el hv).1
  have h1 := exI_le.1 (Int.le_of_eq hc.2)
  have lx := sort_len hx
  have h3 : excI (xs ++ [0]) ys ≤ 0 := by
    unfold excI
    rw [exI_le, sort_app hx (sums_el hv2).1, hl]
    refine ⟨Int.le_refl _, fun t ht1 ht => ?_⟩
    rw [app_psum]
    by_cases e : t ≤ xs.length
    · exact h1.2 t ht1 e
    · rw [psum_past (xs := sortL xs) (k := t) (by omega), lx]
      have h5 := h1.2 xs.length (by omega) (Nat.le_refl _)
      have h6 := room_mono ys (show (xs.length : Int) ≤ t by omega)
      omega
  have := exI_nn (sortL (xs ++ [0])) ys (xs ++ [0]).length
  unfold excI at *
  omega

theorem perm_of_map {f : Int → Int} {L M : List Int} (h : L.Perm M) : ∀ xs : List Int, M = xs.map f → ∃ ys : List Int, ys.Perm xs ∧ ys.map f = L := by
  induction h with
  | nil => intro xs e; exact ⟨xs, .refl _, e.symm⟩
  | cons x _ ih =>
    intro xs e
    cases xs with
    | nil => simp at e
    | cons y r =>
      simp only [List.map_cons, List.cons.injEq] at e
      obtain ⟨zs, h1, h2⟩ := ih r e.2
      exact ⟨y :: zs, h1.cons _, by simp [h2, e.1]⟩
  | swap x y l =>
    intro xs e
    match xs, e with
    | a :: b :: r, e =>
      simp only [List.map_cons, List.cons.injEq] at e
      exact ⟨b :: a :: r, .swap _ _ _, by simp [e.1, e.2.1, e.2.2]⟩
  | trans _ _ h1 h2 =>
    intro xs e
    obtain ⟨ys, a1, a2⟩ := h2 xs e
    obtain ⟨zs, b1, b2⟩ := h1 ys a2.symm
    exact ⟨zs, b1.trans a1, b2⟩
theorem csI_map (xs : List Int) (j : Nat) : csI xs j xs.length = lsum (xs.map fun x => bitI x j) := by
  rw [← psum_all, List.length_map]
  exact sum_ext fun i hi => (map_getD (f := fun x => bitI x j) hi).symm
/-- An image has consistent sums, and no excess. -/
theorem Im.exc {W n : Nat} {xs : List Int} (h : Im W n xs) : excI (rsL xs W n) (csL xs n W) = 0 := by
  have hv := h.sumsV
  have hx := (sums_el hv).1
  have hn : xs.length = n := h.hl
  have hr : rsL xs W n = xs.map (fun x => cntI x W) := by
    refine lists_ext (n := n) (rs_len _ _ _) (by simp [hn]) fun j hj => ?_
    rw [rs_get hj, map_getD (by omega)]
  obtain ⟨ys, hp, hy⟩ := perm_of_map (sort_perm hx) xs hr
  have ly : ys.length = n := by rw [hp.length_eq, hn]
  have key : excI (rsL xs W n) (csL xs n W) ≤ 0 := by
    unfold excI
    rw [exI_le, rs_len]
    refine ⟨Int.le_refl _, fun t _ ht => ?_⟩
    have h1 : psum (sortL (rsL xs W n)) t = sumI (fun j => csI ys j t) W := by
      rw [← hy]
      unfold csI
      rw [← sum_swap (fun i j => bitI (ys.getD i 0) j) t W]
      exact sum_ext fun i hi => by rw [map_getD (by omega), cnt_sum]
    have h2 : sumI (fun j => csI ys j t) W ≤ room (csL xs n W) t := by
      unfold room
      rw [cs_len]
      refine sum_le fun j hj => ?_
      rw [cs_get hj]
      have a1 := (csI_bd ys j t).2
      have a2 : csI ys j t ≤ csI ys j n := sum_mono (fun i => by have := bit_01 (ys.getD i 0) j; omega) ht
      have a3 : csI ys j n = csI xs j n := by
        rw [← ly, csI_map, ly, ← hn, csI_map]; exact lsum_perm (hp.map _)
      omega
    omega
  have := exI_nn (sortL (rsL xs W n)) (csL xs n W) (rsL xs W n).length
  unfold excI at *
  omega
theorem Im.con {W n : Nat} {xs : List Int} (h : Im W n xs) : conB (rsL xs W n) (csL xs n W) = true := by
  refine (conB_iff h.sumsV).2 ⟨?_, h.exc⟩
  rw [rs_len, cs_len]
  exact (rs_total xs W n).trans (cs_total xs W n).symm
theorem excI_small {xs ys : List Int} (h : sumsB xs ys = true) : 0 ≤ excI xs ys ∧ excI xs ys ≤ 36 := by
  have h1 := excI_total h
  have hx := el_parts (sums_el h).1
  have h2 := sum_small (f := fun i => xs.getD i 0) (k := xs.length) hx.2
  have h3 := exI_nn (sortL xs) ys xs.length
  unfold psum excI at *
  omega
end Go.Proofs.Ytemmfnlnhekclaa

namespace Go.Proofs.Ytemmfnlnhekclaa
set_option maxRecDepth 100000
open Go.RowKit

/-- What the sums leave, as far as a place. -/
def restM (xs : List Int) (k : Int) (j : Nat) : List Int := rowsL (fun i => if i < j then k - xs.getD i 0 else 0) xs.length
theorem restM_zero (xs : List Int) (k : Int) : restM xs k 0 = List.replicate xs.length 0 := by
  rw [← rows_zero]; exact rows_ext fun _ _ => by rw [if_neg (by omega)]
theorem restM_set {xs : List Int} {k : Int} {j : Nat} (hj : j < xs.length) : (restM xs k j).set j (k - xs.getD j 0) = restM xs k (j + 1) :=
  rows_set _ _ hj (by rw [if_pos (by omega)]) fun i _ hne => by
    by_cases e : i < j
    · rw [if_pos e, if_pos (by omega)]
    · rw [if_neg e, if_neg (by omega)]
theorem restM_full (xs : List Int) (k : Int) : restM xs k xs.length = restL xs k := rows_ext fun i hi => by rw [if_pos hi]

/-- What a function that gives two lists and a flag leaves: lists of the call's own, apart. -/
def GivesT (w : World) (n : Nat) (L : List Int) (m : Nat) (M : List Int) (ok : Bool) (e : Ending) (w' : World) : Prop :=
  (∃ a c a' c', e = .returned (.tuple #[.slice a n c, .slice a' m c', .bool ok]) ∧ OwnI w' w.heap.size a n c L ∧ OwnI w' w.heap.size a' m c' M ∧ ∃ z, w.heap.size ≤ z ∧ z ≤ w'.heap.size ∧ (∀ p, a = some p → w.heap.size ≤ p.block ∧ p.block < z) ∧ (∀ p, a' = some p → z ≤ p.block ∧ p.block < w'.heap.size)) ∧ Below w.heap.size w w'
/-- The same, lists that may lie anyhow. -/
def GivesTS (w : World) (n : Nat) (L : List Int) (m : Nat) (M : List Int) (ok : Bool) (e : Ending) (w' : World) : Prop :=
  (∃ a c a' c', e = .returned (.tuple #[.slice a n c, .slice a' m c', .bool ok]) ∧ OwnI w' w.heap.size a n c L ∧ OwnI w' w.heap.size a' m c' M) ∧ Below w.heap.size w w'

/-- What SumsTurn gives. -/
def tuL (xs ys : List Int) : List Int := if sumsB xs ys = true then restL xs ys.length else []
def tuR (xs ys : List Int) : List Int := if sumsB xs ys = true then restL ys xs.length else []
theorem tu_len (xs ys : List Int) : (tuL xs ys).length ≤ 6 ∧ (tuR xs ys).length ≤ 6 := by
  unfold tuL tuR
  by_cases h : sumsB xs ys = true
  · rw [if_pos h, if_pos h, rest_len, rest_len]; have := sumsB_parts h; omega
  · rw [if_neg h, if_neg h]; simp
/-- What the columns take, as far as a column. -/
def roomI (ys : List Int) (c : Int) (k : Nat) : Int := sumI (fun j => min (ys.getD j 0) c) k
theorem roomI_succ (ys : List Int) (c : Int) (k : Nat) : roomI ys c (k + 1) = roomI ys c k + min (ys.getD k 0) c := rfl
theorem roomI_all (ys : List Int) (c : Int) : roomI ys c ys.length = room ys c := rfl
theorem roomI_bd {ys : List Int} (h : ∀ i, i < ys.length → 0 ≤ ys.getD i 0 ∧ ys.getD i 0 ≤ 6) {c : Int} (hc : 0 ≤ c) {k : Nat} (hk : k ≤ ys.length) : 0 ≤ roomI ys c k ∧ roomI ys c k ≤ 6 * k :=
  sum_small fun i hi => by have := h i (by omega); (try dsimp only); omega

theorem exI_bd {p ys : List Int} (hP : Par p) (hy : ∀ i, i < ys.length → 0 ≤ ys.getD i 0 ∧ ys.getD i 0 ≤ 6) (k : Nat) : 0 ≤ exI p ys k ∧ exI p ys k ≤ 36 := by
  refine ⟨exI_nn _ _ _, exI_le.2 ⟨by omega, fun t _ _ => ?_⟩⟩
  have h1 := hP.psum_36 t
  have h2 := (room_bd hy (show (0 : Int) ≤ t by omega)).1
  omega
theorem exI_succ (p ys : List Int) (k : Nat) : exI p ys (k + 1) = max (exI p ys k) (psum p (k + 1) - room ys ((k : Int) + 1)) := rfl

end Go.Proofs.Ytemmfnlnhekclaa

namespace Go.Proofs.Ytemmfnlnhekclaa
set_option maxRecDepth 100000
open Go.RowKit

/-- What a function that draws two lists leaves. -/
def DrawnX (w : World) (e : Ending) (w' : World) : Prop :=
  ∃ (aR : Option Addr) (n c : Nat) (xs : List Int) (aC : Option Addr) (m c' : Nat) (ys : List Int), e = .returned (.tuple #[.slice aR n c, .slice aC m c']) ∧ OwnI w' w.heap.size aR n c xs ∧ OwnI w' w.heap.size aC m c' ys ∧ (n ≤ 6 ∧ 1 ≤ m ∧ m ≤ 12) ∧ (n ≤ c ∧ m ≤ c') ∧ Below w.heap.size w w'

end Go.Proofs.Ytemmfnlnhekclaa

namespace Go.Proofs.Ytemmfnlnhekclaa
set_option maxRecDepth 100000
open Go.RowKit

theorem rest_el {xs ys : List Int} {n m : Nat} (h : sumsB xs ys = true) (lx : xs.length = n) (ly : ys.length = m) : elB (restL xs m) = true ∧ elB (restL ys n) = true := by
  subst lx; subst ly; exact sums_el (rest_valid h)
theorem rest_valid' {xs ys : List Int} {n m : Nat} (h : sumsB xs ys = true) (lx : xs.length = n) (ly : ys.length = m) : sumsB (restL xs m) (restL ys n) = true := by
  subst lx; subst ly; exact rest_valid h
theorem rest_len' {xs : List Int} {n : Nat} (lx : xs.length = n) (k : Int) : (restL xs k).length = n := (rest_len xs k).trans lx
end Go.Proofs.Ytemmfnlnhekclaa
