/-
  The contracts of distances, of switches that help, of paths and of runs, in the form in which the laws want them.
-/
import Derived.Test.YteejopkimlkhoaaWi
import Derived.Test.YteejopkimlkhoaaWg
import Derived.Test.YteejopkimlkhoaaWf
import Derived.Test.YteejopkimlkhoaaWh
import Derived.Test.YteejopkimlkhoaaEp
namespace Go.Proofs.Yteejopkimlkhoaa
set_option maxRecDepth 100000
open Go.RowKit

theorem far_ok {K n : Nat} {xs ys : List Int} {f : Int} (h : Im K n xs) (h' : Im K n ys) (hf : farL xs ys K n = f) (s t : Option Addr) (cs ct : Nat) (w : World) (hX : Row w s n xs) (hY : Row w t n ys) :
    Calls Try.prog 24 #[.agg #[.int .i64 K, .slice s n cs], .agg #[.int .i64 K, .slice t n ct]] w fun e w' => e = .returned (.int .i64 f) ∧ Below w.heap.size w w' := by
  have hc := far_impl (K : Int) K s t n n cs ct xs ys w hX hY (by have := h.l6; omega) (by have := h.l6; omega)
  rwa [farOut_yes h h', hf] at hc
theorem fars_ok {K n : Nat} {xs ys : List Int} {f : Int} (h : Im K n xs) (h' : Im K n ys) (hf : farL xs ys K n = f) (s t : Option Addr) (cs ct : Nat) (w : World) (hX : Row w s n xs) (hY : Row w t n ys) :
    Calls Try.prog 25 #[.agg #[.int .i64 K, .slice s n cs], .agg #[.int .i64 K, .slice t n ct]] w fun e w' => e = .returned (.int .i64 f) ∧ Below w.heap.size w w' := by
  have hc := far_spec (K : Int) K s t n n cs ct xs ys w hX hY (by have := h.l6; omega) (by have := h.l6; omega)
  rwa [farOut_yes h h', hf] at hc
theorem far_no {V W : Int} {n m : Nat} {xs ys : List Int} (h : shapeB V xs W ys = false) (hn : n ≤ 6) (hm : m ≤ 6) (s t : Option Addr) (cs ct : Nat) (w : World) (hX : Row w s n xs) (hY : Row w t m ys) :
    Calls Try.prog 24 #[.agg #[.int .i64 V, .slice s n cs], .agg #[.int .i64 W, .slice t m ct]] w fun e w' => e = .returned (.int .i64 (-1)) ∧ Below w.heap.size w w' := by
  have hc := far_impl V W s t n m cs ct xs ys w hX hY (by omega) (by omega)
  rwa [farOut_no h] at hc
theorem fars_no {V W : Int} {n m : Nat} {xs ys : List Int} (h : shapeB V xs W ys = false) (hn : n ≤ 6) (hm : m ≤ 6) (s t : Option Addr) (cs ct : Nat) (w : World) (hX : Row w s n xs) (hY : Row w t m ys) :
    Calls Try.prog 25 #[.agg #[.int .i64 V, .slice s n cs], .agg #[.int .i64 W, .slice t m ct]] w fun e w' => e = .returned (.int .i64 (-1)) ∧ Below w.heap.size w w' := by
  have hc := far_spec V W s t n m cs ct xs ys w hX hY (by omega) (by omega)
  rwa [farOut_no h] at hc
/-- No switch is given. -/
theorem tow_noi {V W : Int} {n m : Nat} {xs ys : List Int} (h : towOut V xs W ys = none) (hn : n ≤ 6) (hm : m ≤ 6) (s t : Option Addr) (cs ct : Nat) (w : World) (hX : Row w s n xs) (hY : Row w t m ys) :
    Calls Try.prog 32 #[.agg #[.int .i64 V, .slice s n cs], .agg #[.int .i64 W, .slice t m ct]] w fun e w' => e = .returned (.tuple #[.agg #[.int .i64 0, .int .i64 0, .int .i64 0, .int .i64 0], .bool false]) ∧ Below w.heap.size w w' := by
  have hc := tow_impl V W s t n m cs ct xs ys w hX hY (by omega) (by omega)
  rw [h] at hc
  exact hc
theorem tow_nos {V W : Int} {n m : Nat} {xs ys : List Int} (h : towOut V xs W ys = none) (hn : n ≤ 6) (hm : m ≤ 6) (s t : Option Addr) (cs ct : Nat) (w : World) (hX : Row w s n xs) (hY : Row w t m ys) :
    Calls Try.prog 33 #[.agg #[.int .i64 V, .slice s n cs], .agg #[.int .i64 W, .slice t m ct]] w fun e w' => e = .returned (.tuple #[.agg #[.int .i64 0, .int .i64 0, .int .i64 0, .int .i64 0], .bool false]) ∧ Below w.heap.size w w' := by
  have hc := tow_spec V W s t n m cs ct xs ys w hX hY (by omega) (by omega)
  rw [h] at hc
  exact hc
theorem towOut_im {V W : Int} {xs ys : List Int} {n m : Nat} (hx : xs.length = n) (hy : ys.length = m) {s : SwT} (h : towOut V xs W ys = some s) : ∃ K : Nat, V = K ∧ W = K ∧ n = m ∧ Im K n xs ∧ Im K n ys ∧ towL xs ys K n = some s := by
  by_cases hv : shapeB V xs W ys = true
  · obtain ⟨K, rfl, rfl, rfl, hI, hJ⟩ := shape_im hx hy hv
    rw [towOut_yes hI hJ] at h
    exact ⟨K, rfl, rfl, rfl, hI, hJ, h⟩
  · rw [towOut_no (by simpa using hv)] at h; cases h

/-- A list of switches and a flag, in the laws' form. -/
def GivesPN (w : World) (N : Nat) (L : List SwT) (ok : Bool) (e : Ending) (w' : World) : Prop := (∃ a cap, e = .returned (.tuple #[.slice a N cap, .bool ok]) ∧ SRow w' a N L ∧ N ≤ cap) ∧ Below w.heap.size w w'
theorem OwnS.cap {w : World} {B n cap : Nat} {a : Option Addr} {L : List SwT} (h : OwnS w B a n cap L) : n ≤ cap := by
  rcases h.2 with ⟨e, h0⟩ | ⟨g, c, cur, e, _, _, hle⟩
  · omega
  · simp only [Value.slice.injEq] at e
    obtain ⟨_, _, rfl⟩ := e
    first | omega | exact hle.1 | exact hle.2.1
theorem GivesP.n {w w' : World} {N : Nat} {L : List SwT} {ok : Bool} {e : Ending} (h : GivesP w L ok e w') (hN : L.length = N) : GivesPN w N L ok e w' := by
  subst hN
  obtain ⟨⟨a, cap, e1, ho⟩, hb⟩ := h
  exact ⟨⟨a, cap, e1, ho.row, ho.cap⟩, hb⟩
theorem path_ok {K n N : Nat} {xs ys : List Int} {L : List SwT} (h : Im K n xs) (h' : Im K n ys) (hs : SumE xs ys K n) (hL : pathL K n xs ys = L) (hN : L.length = N) (s t : Option Addr) (cs ct : Nat) (w : World) (hX : Row w s n xs) (hY : Row w t n ys) :
    Calls Try.prog 39 #[.agg #[.int .i64 K, .slice s n cs], .agg #[.int .i64 K, .slice t n ct]] w (GivesPN w N L true) := by
  have hb : sameB K xs K ys = true := h.same h' hs.1 hs.2
  have hc := path_impl (K : Int) K s t n n cs ct xs ys w hX hY (by have := h.l6; omega) (by have := h.l6; omega)
  rw [pathOut_yes h hb, hL, hb] at hc
  exact hc.mono fun _ _ hg => hg.n hN
theorem paths_ok {K n N : Nat} {xs ys : List Int} {L : List SwT} (h : Im K n xs) (h' : Im K n ys) (hs : SumE xs ys K n) (hL : pathL K n xs ys = L) (hN : L.length = N) (s t : Option Addr) (cs ct : Nat) (w : World) (hX : Row w s n xs) (hY : Row w t n ys) :
    Calls Try.prog 40 #[.agg #[.int .i64 K, .slice s n cs], .agg #[.int .i64 K, .slice t n ct]] w (GivesPN w N L true) := by
  have hb : sameB K xs K ys = true := h.same h' hs.1 hs.2
  have hc := path_spec (K : Int) K s t n n cs ct xs ys w hX hY (by have := h.l6; omega) (by have := h.l6; omega)
  rw [pathOut_yes h hb, hL, hb] at hc
  exact hc.mono fun _ _ hg => hg.n hN
theorem path_no {V W : Int} {n m : Nat} {xs ys : List Int} (h : sameB V xs W ys = false) (hn : n ≤ 6) (hm : m ≤ 6) (s t : Option Addr) (cs ct : Nat) (w : World) (hX : Row w s n xs) (hY : Row w t m ys) :
    Calls Try.prog 39 #[.agg #[.int .i64 V, .slice s n cs], .agg #[.int .i64 W, .slice t m ct]] w (GivesPN w 0 [] false) := by
  have hc := path_impl V W s t n m cs ct xs ys w hX hY (by omega) (by omega)
  rw [pathOut_no h, h] at hc
  exact hc.mono fun _ _ hg => hg.n rfl
theorem paths_no {V W : Int} {n m : Nat} {xs ys : List Int} (h : sameB V xs W ys = false) (hn : n ≤ 6) (hm : m ≤ 6) (s t : Option Addr) (cs ct : Nat) (w : World) (hX : Row w s n xs) (hY : Row w t m ys) :
    Calls Try.prog 40 #[.agg #[.int .i64 V, .slice s n cs], .agg #[.int .i64 W, .slice t m ct]] w (GivesPN w 0 [] false) := by
  have hc := path_spec V W s t n m cs ct xs ys w hX hY (by omega) (by omega)
  rw [pathOut_no h, h] at hc
  exact hc.mono fun _ _ hg => hg.n rfl
/-- A run that succeeds. -/
theorem run_ok {K n N : Nat} {xs ys : List Int} {L : List SwQ} (h : Im K n xs) (hr : runL K xs L = some ys) (hN : N ≤ 1048576) (s al : Option Addr) (cs cl : Nat) (w : World) (hX : Row w s n xs) (hL : QRow w al N L) :
    Calls Try.prog 42 #[.agg #[.int .i64 K, .slice s n cs], .slice al N cl] w (GivesI w K n ys) := by
  have hc := run_impl (K : Int) s al n cs N cl xs L w hX hL (by have := h.l6; omega) hN
  rw [runOut_yes h hr] at hc
  exact hc.mono fun e w' hg => hg.ok (run_im h hr).hl
theorem runs_ok {K n N : Nat} {xs ys : List Int} {L : List SwQ} (h : Im K n xs) (hr : runL K xs L = some ys) (hN : N ≤ 1048576) (s al : Option Addr) (cs cl : Nat) (w : World) (hX : Row w s n xs) (hL : QRow w al N L) :
    Calls Try.prog 44 #[.agg #[.int .i64 K, .slice s n cs], .slice al N cl] w (GivesI w K n ys) := by
  have hc := run_spec (K : Int) s al n cs N cl xs L w hX hL (by have := h.l6; omega) hN
  rw [runOut_yes h hr] at hc
  exact hc.mono fun e w' hg => hg.ok (run_im h hr).hl
/-- A run that fails. -/
theorem run_no {V : Int} {n N : Nat} {xs : List Int} {L : List SwQ} (h : runOut V xs L = .no) (hn : n ≤ 6) (hN : N ≤ 1048576) (s al : Option Addr) (cs cl : Nat) (w : World) (hX : Row w s n xs) (hL : QRow w al N L) :
    Calls Try.prog 42 #[.agg #[.int .i64 V, .slice s n cs], .slice al N cl] w (GivesN w) := by
  have hc := run_impl V s al n cs N cl xs L w hX hL (by omega) hN
  rw [h] at hc
  exact hc
theorem runs_no {V : Int} {n N : Nat} {xs : List Int} {L : List SwQ} (h : runOut V xs L = .no) (hn : n ≤ 6) (hN : N ≤ 1048576) (s al : Option Addr) (cs cl : Nat) (w : World) (hX : Row w s n xs) (hL : QRow w al N L) :
    Calls Try.prog 44 #[.agg #[.int .i64 V, .slice s n cs], .slice al N cl] w (GivesN w) := by
  have hc := run_spec V s al n cs N cl xs L w hX hL (by omega) hN
  rw [h] at hc
  exact hc
theorem runOut_im {V : Int} {xs : List Int} {n : Nat} (hx : xs.length = n) {L : List SwQ} : runOut V xs L = .no ∨ ∃ (K : Nat) (ys : List Int), V = K ∧ Im K n xs ∧ runL K xs L = some ys ∧ Im K n ys := by
  by_cases hv : validB V xs = true
  · have hw := validB_W hv
    obtain ⟨K, rfl⟩ := Int.eq_ofNat_of_zero_le (by omega : 0 ≤ V)
    have hI : Im K n xs := Im.of hv hx
    cases hr : runL K xs L with
    | none => exact .inl (runOut_stop hI hr)
    | some ys => exact .inr ⟨K, ys, rfl, hI, hr, run_im hI hr⟩
  · exact .inl (runOut_no (by simpa using hv))
/-- Images compared by a law. -/
theorem sameImg_any (K : Nat) (a a' : Option Addr) (n c c' : Nat) (xs ys : List Int) (w : World) (h : Row w a n xs) (h' : Row w a' n ys) (hm : n ≤ 6) :
    Calls Try.prog 26 #[.agg #[.int .i64 K, .slice a n c], .agg #[.int .i64 K, .slice a' n c']] w fun e w' => e = .returned (.bool (decide (xs = ys))) ∧ Below w.heap.size w w' := by
  go_enter Try.func26, Try.ntmps26
  go_wp2_with fail
  refine (same_laws a a' n n c c' xs ys _ ((h.alloc _).alloc _) ((h'.alloc _).alloc _) (by omega) (by omega)).mono ?_
  rintro e w1 ⟨rfl, hb⟩
  go_wp2
  go_ret
  exact ⟨rfl, (((Below.refl _ _).alloc (Nat.le_refl _) _).alloc (by simp) _).trans (hb.mono (by simp; omega))⟩
/-- Two lists of which one is the other one's beginning and the other its end. -/
theorem QRow.take {w : World} {a : Option Addr} {n k : Nat} {L : List SwQ} (h : QRow w a n L) (hk : k ≤ n) : QRow w a k (L.take k) := by
  refine ⟨by rw [List.length_take, h.1]; omega, ?_⟩
  rcases h.2 with h0 | ⟨b, off, e, hc⟩
  · exact .inl (by omega)
  · refine .inr ⟨b, off, e, fun q hq => ?_⟩
    rw [List.length_take] at hq
    rw [List.getElem_take]
    exact hc q (by omega)
theorem QRow.drop {w : World} {b off n k : Nat} {L : List SwQ} (h : QRow w (some ⟨b, off, none⟩) n L) (hk : k ≤ n) : QRow w (some ⟨b, off + k * 4, none⟩) (n - k) (L.drop k) := by
  refine ⟨by rw [List.length_drop, h.1], ?_⟩
  rcases h.2 with h0 | ⟨b', off', e, hc⟩
  · exact .inl (by omega)
  · cases e
    refine .inr ⟨b, off + k * 4, rfl, fun q hq => ?_⟩
    rw [List.length_drop] at hq
    rw [List.getElem_drop, show off + k * 4 + q * 4 = off + (k + q) * 4 by omega]
    exact hc (k + q) (by omega)
/-- A list of switches as a row of numbers, and back. -/
theorem QRow.flat {w : World} {a : Option Addr} {n : Nat} {L : List SwQ} (h : QRow w a n L) : Row w a (n * 4) (flatQ L) := by
  refine ⟨by rw [qflat_len, h.1], ?_⟩
  rcases h.2 with h0 | ⟨b, off, e, hc⟩
  · exact .inl (by omega)
  · refine .inr ⟨b, off, e, fun i hi => ?_⟩
    have hl := h.1
    have hq := hc (i / 4) (by omega)
    have hg := qflat_get L (i / 4) (by omega)
    obtain ⟨q, hq'⟩ : ∃ q, i / 4 = q := ⟨_, rfl⟩
    simp only [hq'] at hq hg
    have hj4 : i = q * 4 ∨ i = q * 4 + 1 ∨ i = q * 4 + 2 ∨ i = q * 4 + 3 := by omega
    rcases hj4 with rfl | rfl | rfl | rfl
    · rw [hg.1]; exact hq.1
    · rw [hg.2.1]; exact hq.2.1
    · rw [hg.2.2.1]; exact hq.2.2.1
    · rw [hg.2.2.2]; exact hq.2.2.2
theorem Row.q {w : World} {a : Option Addr} {n : Nat} {L : List SwQ} (h : Row w a (n * 4) (flatQ L)) (hl : L.length = n) : QRow w a n L := by
  refine ⟨hl, ?_⟩
  rcases h.2 with h0 | ⟨b, off, e, hc⟩
  · exact .inl (by omega)
  · refine .inr ⟨b, off, e, fun q hq => ?_⟩
    have hg := qflat_get L q hq
    have h0 := hc (q * 4) (by omega)
    have h1 := hc (q * 4 + 1) (by omega)
    have h2 := hc (q * 4 + 2) (by omega)
    have h3 := hc (q * 4 + 3) (by omega)
    rw [hg.1] at h0
    rw [hg.2.1] at h1
    rw [hg.2.2.1] at h2
    rw [hg.2.2.2] at h3
    exact ⟨h0, h1, h2, h3⟩
theorem qrow_nil (w : World) (a : Option Addr) : QRow w a 0 [] := ⟨rfl, .inl rfl⟩
theorem put_cell {W n : Nat} {xs : List Int} (h : Im W n xs) {i j : Nat} (hi : i < n) (hj : j < W) : ∀ a b, a < n → b < W → cellOf (putL xs i j (!hasB W xs i j)) a b = if a = i ∧ b = j then !cellOf xs a b else cellOf xs a b := by
  intro a b ha hb
  rw [← has_cell (h.put hi hj _) ha hb, h.put_has hi hj ha hb]
  by_cases e : a = i ∧ b = j
  · rw [if_pos e, if_pos e, e.1, e.2, has_cell h hi hj]
  · rw [if_neg e, if_neg e, has_cell h ha hb]
end Go.Proofs.Yteejopkimlkhoaa

