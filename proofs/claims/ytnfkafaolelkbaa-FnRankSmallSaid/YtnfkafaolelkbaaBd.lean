/-
  slices.BinarySearch and sort.Search; a list of lists of the call's own whose lists are cut to one element.
-/
import Derived.Test.YtnfkafaolelkbaaBc
import Derived.Test.YtnfkafaolelkbaaBb
namespace Go.Proofs.Ytnfkafaolelkbaa
set_option maxRecDepth 100000
open Go.RowKit

theorem nan2_any (x : Int) (w : World) : Calls Try.prog 111 #[.int .i64 x] w fun e w' => e = .returned (.bool false) ∧ w = w' := by
  go_enter Try.func111, Try.ntmps111
  go_wp2
  go_ret
  exact ⟨by simp, rfl⟩
theorem less_any (x y : Int) (w : World) : Calls Try.prog 97 #[.int .i64 x, .int .i64 y] w fun e w' => e = .returned (.bool (decide (x < y))) ∧ w = w' := by
  by_cases h1 : x < y
  · rw [decide_eq_true h1]
    go_enter Try.func97, Try.ntmps97
    go_wp2_with (go_at_call 111; refine (nan2_any _ _).mono ?_; rintro e w' ⟨rfl, rfl⟩)
    go_ret
    exact ⟨rfl, rfl⟩
  · have hd : decide (x < y) = false := decide_eq_false h1
    rw [hd]
    go_enter Try.func97, Try.ntmps97
    go_wp2_with (go_at_call 111; refine (nan2_any _ _).mono ?_; rintro e w' ⟨rfl, rfl⟩)
    go_ret
    exact ⟨rfl, rfl⟩
theorem half_num {i j n : Nat} (h : i < j) (hj : j ≤ n) (hn : n ≤ 1048576) : ∃ h : Nat, i ≤ h ∧ h < j ∧ IntKind.i64.wrap ((i : Int) + j) = (i : Int) + j ∧ IntKind.u64.wrap ((i : Int) + j) = (i : Int) + j ∧ ((i : Int) + j) / 2 = h ∧ IntKind.u64.wrap (h : Int) = h ∧ IntKind.i64.wrap (h : Int) = h := by
  refine ⟨(i + j) / 2, by omega, by omega, IntWalk.i64_in _ ⟨by omega, by omega⟩, ?_, by omega, ?_, IntWalk.i64_in _ ⟨by omega, by omega⟩⟩
  · exact IntWalk.u64_in _ ⟨by omega, by omega⟩
  · exact IntWalk.u64_in _ ⟨by omega, by omega⟩
set_option maxHeartbeats 1600000 in
theorem bsearch_any (a : Option Addr) (n cap : Nat) (L : List Int) (x : Int) (p : Nat) (w : World) (h : Row w a n L) (hn : n ≤ 64) (hp : p < n) (hx : L.getD p 0 = x) (hlo : ∀ q, q < p → L.getD q 0 < x) (hhi : ∀ q, p ≤ q → q < n → x ≤ L.getD q 0) :
    Calls Try.prog 61 #[.slice a n cap, .int .i64 x] w fun e w' => e = .returned (.tuple #[.int .i64 p, .bool true]) ∧ w = w' := by
  have hR := Lib.hid h
  have hlo := Lib.hid hlo
  have hhi := Lib.hid hhi
  obtain ⟨ab, ao, rfl, hc⟩ := row_at h hp
  rw [hx] at hc
  have hx := Lib.hid hx
  clear h
  go_enter Try.func61, Try.ntmps61
  go_wp2_with fail
  go_loopw [7, 8] (fun i j wr => ∃ u v : Nat, u ≤ p ∧ p ≤ v ∧ v ≤ n ∧ i = .int .i64 u ∧ j = .int .i64 v ∧ Hid (w = wr)) (fun i j _ => (intOf j).toNat - (intOf i).toNat)
  case atStart => exact ⟨0, n, Nat.zero_le _, by omega, Nat.le_refl _, rfl, rfl, rfl⟩
  case round =>
    obtain ⟨u, v, hu, hv, hvn, rfl, rfl, hw⟩ := hrel
    obtain rfl := hw.out
    clear hw
    by_cases hlt : u < v
    · obtain ⟨k, k0, k1, e1, e2, e3, e4, e5⟩ := half_num hlt hvn (by omega)
      obtain ⟨ab', ao', eb, hk⟩ := row_at hR.out (show k < n by omega)
      cases eb
      by_cases hkp : k < p
      · have hl := hlo.out k hkp
        have hd : decide (L.getD k 0 < x) = true := decide_eq_true hl
        obtain ⟨y, hy⟩ : ∃ y, L.getD k 0 = y := ⟨_, rfl⟩
        rw [hy] at hk hd
        have cl := Lib.hid (fun wx => hd ▸ less_any y x wx)
        replace hy := Lib.hid hy
        clear hl hd
        go_wp2_with fail
        refine (cl.out _).mono ?_
        rintro e w1 ⟨rfl, rfl⟩
        go_wp2_with fail
        exact ⟨⟨k + 1, v, by omega, hv, hvn, by go_num, rfl, by first | exact Lib.hid rfl | exact Lib.hid trivial⟩, by simp [intOf]; omega⟩
      · have hl := hhi.out k (by omega) (by omega)
        have hd : decide (L.getD k 0 < x) = false := decide_eq_false (by omega)
        obtain ⟨y, hy⟩ : ∃ y, L.getD k 0 = y := ⟨_, rfl⟩
        rw [hy] at hk hd
        have cl := Lib.hid (fun wx => hd ▸ less_any y x wx)
        replace hy := Lib.hid hy
        clear hl hd
        go_wp2_with fail
        refine (cl.out _).mono ?_
        rintro e w1 ⟨rfl, rfl⟩
        go_wp2_with fail
        exact ⟨⟨u, k, hu, by omega, by omega, rfl, by go_num, by first | exact Lib.hid rfl | exact Lib.hid trivial⟩, by simp [intOf]; omega⟩
    · obtain rfl : u = v := by omega
      obtain rfl : u = p := by omega
      go_wp2_with fail
      refine bodyPost_ret (v := .tuple #[.int .i64 u, .bool true]) (by simp [results, Try.results61, go_sem]) rfl ?_
      exact ⟨rfl, rfl⟩
set_option maxHeartbeats 1600000 in
/-- sort.Search with ImageNth's function: the answer is the first place where it says yes, if the ones ahead say no. -/
theorem search_nth (p1 p2 p3 p4 : Option Addr) (n : Nat) (g : Nat → Bool) (w : World) (hn : n ≤ 64)
    (hf : ∀ (k : Nat) (wx : World), k < n → Below w.heap.size w wx → Calls Try.prog 72 #[.int .i64 k, .pointer p1, .pointer p2, .pointer p3, .pointer p4] wx fun e w' => e = .returned (.bool (g k)) ∧ Below wx.heap.size wx w') :
    Calls Try.prog 71 #[.int .i64 n, .func (.func 72) #[] #[.pointer p1, .pointer p2, .pointer p3, .pointer p4]] w fun e w' => (∃ p : Nat, e = .returned (.int .i64 p) ∧ p ≤ n ∧ (p = 0 ∨ g (p - 1) = false) ∧ (p = n ∨ g p = true)) ∧ Below w.heap.size w w' := by
  have hf := Lib.hid hf
  go_enter Try.func71, Try.ntmps71
  go_wp2_with fail
  go_loopw [5, 6] (fun i j wr => ∃ u v : Nat, u ≤ v ∧ v ≤ n ∧ (u = 0 ∨ g (u - 1) = false) ∧ (v = n ∨ g v = true) ∧ i = .int .i64 u ∧ j = .int .i64 v ∧ Hid (Below w.heap.size w wr)) (fun i j _ => (intOf j).toNat - (intOf i).toNat)
  case atStart => exact ⟨0, n, Nat.zero_le _, Nat.le_refl _, .inl rfl, .inl rfl, rfl, rfl, Below.refl _ _⟩
  case round =>
    obtain ⟨u, v, huv, hvn, hu, hv, rfl, rfl, hb⟩ := hrel
    obtain ⟨wo, rfl⟩ : ∃ wo : World, wo = wr := ⟨_, rfl⟩
    have hu := Lib.hid hu
    have hv := Lib.hid hv
    by_cases hlt : u < v
    · obtain ⟨k, k0, k1, e1, e2, e3, e4, e5⟩ := half_num hlt hvn (by omega)
      have ck := hf.out k wo (by omega) hb.out
      cases hg : g k with
      | true =>
        rw [hg] at ck
        have hv2 : Hid (k = n ∨ g k = true) := .inr hg
        clear hg hv
        go_wp2_with fail
        refine ck.mono ?_
        rintro e w1 ⟨rfl, hb1⟩
        have hb2 := Lib.hid (hb.out.trans (hb1.mono hb.out.size))
        clear hb1
        go_wp2_with fail
        exact ⟨⟨u, k, by omega, by omega, hu.out, hv2.out, rfl, by go_num, hb2⟩, by simp [intOf]; omega⟩
      | false =>
        rw [hg] at ck
        have hu2 : Hid (k + 1 = 0 ∨ g (k + 1 - 1) = false) := .inr (by rw [Nat.add_sub_cancel]; exact hg)
        clear hg hu
        go_wp2_with fail
        refine ck.mono ?_
        rintro e w1 ⟨rfl, hb1⟩
        have hb2 := Lib.hid (hb.out.trans (hb1.mono hb.out.size))
        clear hb1
        go_wp2_with fail
        exact ⟨⟨k + 1, v, by omega, hvn, hu2.out, hv.out, by go_num, rfl, hb2⟩, by simp [intOf]; omega⟩
    · obtain rfl : u = v := by omega
      go_wp2_with fail
      go_ret
      exact ⟨⟨u, rfl, hvn, hu.out, hv.out⟩, hb.out⟩
/-- A list of lists of the call's own; its lists lie elsewhere. -/
def ChR (B : Nat) (wr : World) (g n : Nat) (C : List (List Int)) : Prop :=
  ∃ vals : List Value, wr.ownsRow B 23 1 (.slice (some ⟨g, 0, none⟩) n n) n vals ∧ C.length = n ∧ ∀ q (h : q < C.length), ∃ b o c, vals[q]? = some (.slice (some ⟨b, o, none⟩) C[q].length c) ∧ C[q].length ≤ c ∧ 1 ≤ C[q].length ∧ (B ≤ b ∧ b ≠ g) ∧ Row wr (some ⟨b, o, none⟩) C[q].length C[q]
variable {B g n : Nat} {wr w1 : World} {C : List (List Int)}
theorem ChR.of (h : ChAt B wr g n C) (hn : C.length = n) (h1 : ∀ L, L ∈ C → 1 ≤ L.length) : ChR B wr g n C := by
  obtain ⟨vals, bs, d1, d2, d3, d4, d5⟩ := h
  refine ⟨vals, d1, hn, fun q hq => ?_⟩
  obtain ⟨c, e1, e2⟩ := d5 q hq
  refine ⟨_, 0, c, e1, own_cap e2, h1 _ (List.getElem_mem hq), ⟨(rng_own e2 _ rfl).1, fun e => ?_⟩, e2.row⟩
  refine (List.nodup_cons.1 d4).1 ?_
  rw [← e, show bs.getD q 0 = bs[q] by simp [show q < bs.length by omega]]
  exact List.getElem_mem _
theorem ChR.far (h : ChR B wr g n C) : B ≤ g ∧ g < wr.heap.size := by
  obtain ⟨vals, h1, _⟩ := h
  exact own_ltR h1
theorem ChR.bel (h : ChR B wr g n C) (hb : Below wr.heap.size wr w1) : ChR B w1 g n C := by
  obtain ⟨vals, h1, h2, h3⟩ := h
  refine ⟨vals, World.ownsRow.kept h1 (below_grown hb none) (.inr (by simp [Value.ownBlock])), h2, fun q hq => ?_⟩
  obtain ⟨b, o, c, d1, d2, d3, d4, d5⟩ := h3 q hq
  exact ⟨b, o, c, d1, d2, d3, d4, d5.bel hb⟩
theorem ChR.read (h : ChR B wr g n C) : RowsC wr g 0 n C := by
  obtain ⟨vals, h1, h2, h3⟩ := h
  refine ⟨h2, fun i hi => ?_⟩
  obtain ⟨b, o, c, d1, d2, d3, d4, d5⟩ := h3 i hi
  exact ⟨b, o, c, by rw [Nat.zero_add, World.ownsRow.cellAt h1 _ (by omega), d1], d2, d3, d5⟩
theorem row_set {w : World} {b o k g : Nat} {L : List Int} {i : Nat} {v : Value} (h : Row w (some ⟨b, o, none⟩) k L) (hne : b ≠ g) : Row (w.setCell ⟨g, i, none⟩ v) (some ⟨b, o, none⟩) k L := by
  refine ⟨h.1, h.2.imp id ?_⟩
  rintro ⟨b', o', e, hc⟩
  cases e
  exact ⟨b, o, rfl, fun j hj => by rw [World.cell?_setCell_other _ _ _ _ (by first | (simp; done) | (simp; exact hne) | (simp; exact fun h => hne h.symm))]; exact hc j hj⟩
theorem ChR.cut (h : ChR B wr g n C) {q : Nat} (hq : q < n) {L : List Int} (hL : C[q]? = some L) : ∃ b o c, wr.cell? ⟨g, q, none⟩ = some (.slice (some ⟨b, o, none⟩) L.length c) ∧ L.length ≤ c ∧ Row wr (some ⟨b, o, none⟩) L.length L ∧ (∀ k, wr.frozen? ⟨g, k, none⟩ = false) ∧
    ∀ t, t < L.length → ChR B (wr.setCell ⟨g, q, none⟩ (.slice (some ⟨b, o + t, none⟩) 1 (c - t))) g n (C.set q [L.getD t 0]) := by
  obtain ⟨vals, h1, h2, h3⟩ := h
  obtain ⟨b, o, c, d1, d2, d3, d4, d5⟩ := h3 q (by omega)
  have hLe : C[q]'(by omega) = L := by rw [List.getElem?_eq_getElem (by omega)] at hL; exact Option.some.inj hL
  rw [hLe] at d1 d2 d3 d5
  refine ⟨b, o, c, by rw [World.ownsRow.cellAt h1 _ (by omega), d1], d2, d5, World.ownsRow.frozenAt h1, fun t ht => ?_⟩
  refine ⟨vals.set q (.slice (some ⟨b, o + t, none⟩) 1 (c - t)), (World.ownsRow.stored h1 q _).1, by rw [List.length_set]; exact h2, fun k hk => ?_⟩
  rw [List.length_set] at hk
  by_cases e : k = q
  · subst e
    refine ⟨b, o + t, c - t, ?_, ?_, ?_, d4, ?_⟩
    · have := h1.1
      rw [List.getElem?_set_self (by omega)]; simp
    · simp; omega
    · simp
    · simp only [List.getElem_set_self]
      refine row_set ⟨rfl, .inr ⟨b, o + t, rfl, fun j hj => ?_⟩⟩ d4.2
      obtain rfl : j = 0 := by simpa using hj
      obtain ⟨b', o', e, hc⟩ := row_at d5 ht
      cases e
      simpa using hc
  · obtain ⟨b', o', c', f1, f2, f3, f4, f5⟩ := h3 k hk
    refine ⟨b', o', c', ?_, ?_, ?_, f4, ?_⟩
    · rw [List.getElem?_set_ne (fun e2 => e e2.symm), f1]
      rw [List.getElem_set_ne (fun e2 => e e2.symm)]
    · rw [List.getElem_set_ne (fun e2 => e e2.symm)]; exact f2
    · rw [List.getElem_set_ne (fun e2 => e e2.symm)]; exact f3
    · rw [List.getElem_set_ne (fun e2 => e e2.symm)]; exact row_set f5 f4.2
theorem ChR.other (h : ChR B wr g n C) {q i : Nat} {v : Value} (hq : q < B) : ChR B (wr.setCell ⟨q, i, none⟩ v) g n C := by
  have hf := h.far
  obtain ⟨vals, h1, h2, h3⟩ := h
  have hg : wr.grownBy (wr.setCell ⟨q, i, none⟩ v) (some q) := grown_set (World.grownBy.refl _ _)
  refine ⟨vals, World.ownsRow.kept h1 hg (.inr (fun e => by have := Option.some.inj e; simp at this; omega)), h2, fun k hk => ?_⟩
  obtain ⟨b, o, c, d1, d2, d3, d4, d5⟩ := h3 k hk
  exact ⟨b, o, c, d1, d2, d3, d4, row_set d5 (by omega)⟩
end Go.Proofs.Ytnfkafaolelkbaa

