/-
  The contracts of the laws' drawing functions that draw lists and partitions.
-/
import Derived.Test.YteadibgjieimkaaPh
import Derived.Test.YteadibgjieimkaaZ
namespace Go.Proofs.Yteadibgjieimkaa
set_option maxRecDepth 100000
open Go.RowKit

/-- A list of the call's own, and the reader, in the middle of a drawing function. -/
structure LR (w wr : World) (r : Nat) (a : Option Addr) (len cap : Nat) (zs : List Int) (p : Nat) (s : Option Addr) (n c : Nat) (xs : List Int) : Prop where
  o : OwnI wr w.heap.size s n c xs
  rd : Rd wr r a len cap zs p
  gr : w.grownBy wr (some r)
  hr : r < w.heap.size
  far : ∀ b off, a = some ⟨b, off, none⟩ → 0 < len → b < w.heap.size
theorem Rd.cut {w wr : World} {r B : Nat} {a : Option Addr} {len cap : Nat} {zs : List Int} {p : Nat} (h : Rd w r a len cap zs p) (hb : Below B w wr) (hr : r < B) (hf : ∀ b off, a = some ⟨b, off, none⟩ → 0 < len → b < B) : Rd wr r a len cap zs p :=
  ⟨(hb.cell (p := ⟨r, 0, none⟩) hr).trans h.c0, (hb.cell (p := ⟨r, 1, none⟩) hr).trans h.c1, fun o => (hb.frozen (p := ⟨r, o, none⟩) hr).trans (h.fz o), h.small, by
    rcases h.bys with h2 | ⟨b, off, e, hc⟩
    · exact .inl h2
    · by_cases h0 : len = 0
      · exact .inl h0
      · exact .inr ⟨b, off, e, fun i hi => ⟨(hb.cell (p := ⟨b, off + i, none⟩) (hf b off e (by omega))).trans (hc i hi).1, (hc i hi).2⟩⟩, h.far⟩
theorem LR.pick {w wr w1 : World} {r : Nat} {a : Option Addr} {len cap : Nat} {zs : List Int} {p p' : Nat} {s : Option Addr} {n c : Nat} {xs : List Int} (h : LR w wr r a len cap zs p s n c xs) (hr : Rd w1 r a len cap zs p') (hg : wr.grownBy w1 (some r)) : LR w w1 r a len cap zs p' s n c xs :=
  ⟨h.o.other hg h.hr, hr, grown_trans h.gr hg, h.hr, h.far⟩
theorem LR.put {w wr w1 : World} {r : Nat} {a : Option Addr} {len cap : Nat} {zs : List Int} {p : Nat} {s s' : Option Addr} {n c n' c' : Nat} {xs xs' : List Int} (h : LR w wr r a len cap zs p s n c xs) (hb : Below w.heap.size wr w1) (ho : OwnI w1 w.heap.size s' n' c' xs') : LR w w1 r a len cap zs p s' n' c' xs' :=
  ⟨ho, h.rd.cut hb h.hr h.far, grown_then h.gr hb, h.hr, h.far⟩
theorem LR.bel {w wr w1 : World} {r : Nat} {a : Option Addr} {len cap : Nat} {zs : List Int} {p : Nat} {s : Option Addr} {n c : Nat} {xs : List Int} (h : LR w wr r a len cap zs p s n c xs) (hb : Below wr.heap.size wr w1) : LR w w1 r a len cap zs p s n c xs :=
  h.put (hb.mono h.gr.size) (h.o.bel hb)
/-- A list of the call's own takes more numbers: what stays. -/
theorem app_belW {w wr w3 : World} {r : Nat} {a : Option Addr} {len cap : Nat} {zs : List Int} {p : Nat} {s : Option Addr} {n c : Nat} {xs : List Int} {o : Obj} (h : LR w wr r a len cap zs p s n c xs) (hgr : (wr.alloc o).grownBy w3 (Value.slice s n c).ownBlock) : Below w.heap.size wr w3 :=
  app_bel h.o hgr rfl h.gr.size
theorem ones_new (w : World) : ∀ j u, [Value.int .i64 1, .int .i64 1, .int .i64 1, .int .i64 1, .int .i64 1, .int .i64 1, .int .i64 1][j]? = some u → (w.alloc (.cells #[.int .i64 1, .int .i64 1, .int .i64 1, .int .i64 1, .int .i64 1, .int .i64 1, .int .i64 1] 3)).cell? ((⟨w.heap.size, 0, none⟩ : Addr).add j) = some u := by
  intro j u hj
  have hj7 : j < 7 := by have := (List.getElem?_eq_some_iff.1 hj).1; simpa using this
  have hc : j = 0 ∨ j = 1 ∨ j = 2 ∨ j = 3 ∨ j = 4 ∨ j = 5 ∨ j = 6 := by omega
  rcases hc with rfl | rfl | rfl | rfl | rfl | rfl | rfl <;> (simp at hj; subst hj; simp [Addr.add])
theorem ones_cell : ∀ u, u ∈ [Value.int .i64 1, .int .i64 1, .int .i64 1, .int .i64 1, .int .i64 1, .int .i64 1, .int .i64 1] → u.oneCell' = true := by
  intro u hu; simp at hu; subst hu; rfl

theorem own_some {w : World} {B n c : Nat} {s : Option Addr} {xs : List Int} (h : OwnI w B s n c xs) (hn : 0 < n) : s ≠ none := by
  rcases h.cases with ⟨_, h0, _⟩ | ⟨g, rfl, _⟩
  · omega
  · simp
/-- What l91List leaves: a slice that is not nil. -/
def DrawsN (w : World) (r : Nat) (a : Option Addr) (len cap : Nat) (zs : List Int) (p m : Nat) (e : Ending) (w' : World) : Prop :=
  ∃ s n c xs p', e = .returned (.slice s n c) ∧ LR w w' r a len cap zs p' s n c xs ∧ p' ≤ p + m ∧ n ≤ 13 ∧ s ≠ none
/-- What l91Part leaves. -/
def DrawsL (w : World) (r : Nat) (a : Option Addr) (len cap : Nat) (zs : List Int) (p m : Nat) (e : Ending) (w' : World) : Prop :=
  ∃ s n c xs p', e = .returned (.slice s n c) ∧ LR w w' r a len cap zs p' s n c xs ∧ p' ≤ p + m ∧ n ≤ 13

set_option maxHeartbeats 1600000 in
theorem ldraw_any (r : Nat) (a : Option Addr) (len cap : Nat) (zs : List Int) (p : Nat) (w : World) (h : Rd w r a len cap zs p) (hr : r < w.heap.size) (hf : ∀ b off, a = some ⟨b, off, none⟩ → 0 < len → b < w.heap.size) (hp : p ≤ 900) :
    Calls Try.prog 61 #[.pointer (some ⟨r, 0, none⟩)] w (DrawsN w r a len cap zs p 10) := by
  obtain ⟨i0, hi, hz0, hz1, hz2⟩ := info_parts infoInt
  obtain ⟨W0, hW0⟩ : ∃ W0, W0 = w.alloc (.cells #[] 3) := ⟨_, rfl⟩
  have hb0 : Below w.heap.size w W0 := by subst hW0; exact (Below.refl _ _).alloc (Nat.le_refl _) _
  have ho : OwnI W0 w.heap.size (some ⟨w.heap.size, 0, none⟩) 0 0 [] := by subst hW0; exact own_empty w w.heap.size w.heap.size rfl (Nat.le_refl _)
  have S : LR w W0 r a len cap zs p (some ⟨w.heap.size, 0, none⟩) 0 0 [] := ⟨ho, h.bel hb0, grown_then (World.grownBy.refl _ _) hb0, hr, hf⟩
  replace S := Lib.hid S
  clear h hb0 ho hf
  go_enter Try.func61, Try.ntmps61
  go_wp2_with fail
  rw [← hW0]
  clear hW0
  refine (pick_any r a len cap zs p 7 _ S.out.rd (by omega) (by omega)).mono ?_
  rintro e w1 ⟨v, rfl, hv0, hv1, hrd, hg⟩
  replace S := Lib.hid (S.out.pick hrd hg)
  clear hrd hg
  obtain ⟨v, rfl⟩ := Int.eq_ofNat_of_zero_le hv0
  have hv7 : v < 7 := by omega
  clear hv0 hv1
  go_wp2_with fail
  go_loopw [3, 5] (fun o i wr => ∃ (j : Nat) (s : Option Addr) (c : Nat) (xs : List Int), j ≤ v ∧ i = .int .i64 j ∧ o = .slice s j c ∧ Hid (LR w wr r a len cap zs (p + 1 + j) s j c xs) ∧ s ≠ none) (fun _ i _ => v - (intOf i).toNat)
  case atStart => exact ⟨0, _, 0, _, by omega, rfl, rfl, S, by simp⟩
  case round =>
    obtain ⟨j, s, c, xs, hj, rfl, rfl, S1, hsn⟩ := hrel
    replace hsn := Lib.hid hsn
    obtain ⟨wo, rfl⟩ : ∃ wo : World, wo = wr := ⟨_, rfl⟩
    clear S
    by_cases hlt : j < v
    · go_wp2_with fail
      refine (pick_any r a len cap zs _ 7 _ S1.out.rd (by omega) (by omega)).mono ?_
      rintro e w2 ⟨u, rfl, hu0, hu1, hrd, hg⟩
      replace S1 := Lib.hid (S1.out.pick hrd hg)
      have hsz := S1.out.gr.size
      clear hrd hg
      go_wp2_with (at_builtin; refine wpList_append_own _ rfl _ _ 23 rfl w.heap.size 3 i0 (.int .i64 0) 1 8 Try.underlying23 hi hz0 hz1 hz2 rfl (by decide) _ j (xs.map (Value.int .i64)) rfl (World.ownsRow.alloc S1.out.o _) ⟨w2.heap.size, 0, none⟩ 1 1 [.int .i64 u] rfl rfl ?c1 ?c2 ?c3 ?c4 ?c5 ?_)
      all_goals (first | with_reducible exact one_new _ _ | skip)
      case c2 => first | rfl | exact one_cell _
      case c3 => unfold maxLen; omega
      case c4 => omega
      case c5 => first | omega | (simp; omega)
      intro v' w3 hown hgr _
      obtain ⟨s', c', rfl, ho3⟩ := own_of (xs := xs ++ [u]) (by rw [List.map_append]; exact hown)
      have S2 := Lib.hid (S1.out.put (app_belW S1.out hgr) ho3)
      clear hown hgr ho3 S1
      go_wp2_with fail
      exact ⟨⟨j + 1, s', c', _, by omega, by go_num, rfl, S2, own_some S2.out.o (by omega)⟩, by simp [intOf]; omega⟩
    · have : j = v := by omega
      subst this
      go_wp2_with fail
      refine (pick_any r a len cap zs _ 30 _ S1.out.rd (by omega) (by omega)).mono ?_
      rintro e w2 ⟨u, rfl, hu0, hu1, hrd, hg⟩
      replace S1 := Lib.hid (S1.out.pick hrd hg)
      have hsz := S1.out.gr.size
      clear hrd hg
      by_cases e0 : u = 0
      · subst e0
        go_wp2_with (at_builtin; refine wpList_append_own _ rfl _ _ 23 rfl w.heap.size 3 i0 (.int .i64 0) 1 8 Try.underlying23 hi hz0 hz1 hz2 rfl (by decide) _ j (xs.map (Value.int .i64)) rfl (World.ownsRow.alloc S1.out.o _) ⟨w2.heap.size, 0, none⟩ 1 1 [.int .i64 7] rfl rfl ?d1 ?d2 ?d3 ?d4 ?d5 ?_)
        all_goals (first | with_reducible exact one_new _ _ | skip)
        case d2 => first | rfl | exact one_cell _
        case d3 => unfold maxLen; omega
        case d4 => omega
        case d5 => first | omega | (simp; omega)
        intro v' w3 hown hgr _
        obtain ⟨s', c', rfl, ho3⟩ := own_of (xs := xs ++ [7]) (by rw [List.map_append]; exact hown)
        have S2 := Lib.hid (S1.out.put (app_belW S1.out hgr) ho3)
        clear hown hgr ho3 S1
        go_wp2_with fail
        go_ret
        exact ⟨s', _, c', _, _, rfl, S2.out, by omega, by omega, own_some S2.out.o (by omega)⟩
      by_cases e1 : u = 1
      · subst e1
        go_wp2_with (at_builtin; refine wpList_append_own _ rfl _ _ 23 rfl w.heap.size 3 i0 (.int .i64 0) 1 8 Try.underlying23 hi hz0 hz1 hz2 rfl (by decide) _ j (xs.map (Value.int .i64)) rfl (World.ownsRow.alloc S1.out.o _) ⟨w2.heap.size, 0, none⟩ 7 7 [.int .i64 1, .int .i64 1, .int .i64 1, .int .i64 1, .int .i64 1, .int .i64 1, .int .i64 1] rfl rfl ?f1 ?f2 ?f3 ?f4 ?f5 ?_)
        all_goals (first | with_reducible exact ones_new _ | skip)
        case f2 => first | rfl | exact ones_cell
        case f3 => unfold maxLen; omega
        case f4 => omega
        case f5 => first | omega | (simp; omega)
        intro v' w3 hown hgr _
        obtain ⟨s', c', rfl, ho3⟩ := own_of (xs := xs ++ [1, 1, 1, 1, 1, 1, 1]) (by rw [List.map_append]; exact hown)
        have S2 := Lib.hid (S1.out.put (app_belW S1.out hgr) ho3)
        clear hown hgr ho3 S1
        go_wp2_with fail
        go_ret
        exact ⟨s', _, c', _, _, rfl, S2.out, by omega, by omega, own_some S2.out.o (by omega)⟩
      by_cases e2 : u = 2
      · subst e2
        go_wp2_with (at_builtin; refine wpList_append_own _ rfl _ _ 23 rfl w.heap.size 3 i0 (.int .i64 0) 1 8 Try.underlying23 hi hz0 hz1 hz2 rfl (by decide) _ j (xs.map (Value.int .i64)) rfl (World.ownsRow.alloc S1.out.o _) ⟨w2.heap.size, 0, none⟩ 1 1 [.int .i64 (-1)] rfl rfl ?g1 ?g2 ?g3 ?g4 ?g5 ?_)
        all_goals (first | with_reducible exact one_new _ _ | skip)
        case g2 => first | rfl | exact one_cell _
        case g3 => unfold maxLen; omega
        case g4 => omega
        case g5 => first | omega | (simp; omega)
        intro v' w3 hown hgr _
        obtain ⟨s', c', rfl, ho3⟩ := own_of (xs := xs ++ [-1]) (by rw [List.map_append]; exact hown)
        have S2 := Lib.hid (S1.out.put (app_belW S1.out hgr) ho3)
        clear hown hgr ho3 S1
        go_wp2_with fail
        go_ret
        exact ⟨s', _, c', _, _, rfl, S2.out, by omega, by omega, own_some S2.out.o (by omega)⟩
      · have b0 : (u == 0) = false := by simpa using e0
        have b1 : (u == 1) = false := by simpa using e1
        have b2 : (u == 2) = false := by simpa using e2
        clear e0 e1 e2
        go_wp2_with fail
        go_ret
        exact ⟨s, _, c, _, _, rfl, S1.out, by omega, by omega, hsn.out⟩
end Go.Proofs.Yteadibgjieimkaa

