/-
  The contracts of errors.Is at this package's error value, of imageError and of SumsConsistent.
-/
import Derived.Test.YtnhcknbbkmaiiaaCa
import Derived.Test.YtnhcknbbkmaiiaaPa
import Derived.Test.YtnhcknbbkmaiiaaK
import Derived.LaidEql
import Derived.Stop.Asserts
namespace Go.Proofs.Ytnhcknbbkmaiiaa
set_option maxRecDepth 100000
open Go.RowKit Go.Extern.Stop Go.Stop Go.Extern

def cmpFn : Array Value → Sem Value := Extern.ReflectliteType.method fun t => do Extern.Rtype.noPackHeld "Comparable" t; pure (.bool (← typeInfo t).comparable)
set_option maxHeartbeats 1600000 in
theorem con_spec (a a' : Option Addr) (n m cap cap' : Nat) (xs ys : List Int) (w : World) (h : Row w a n xs) (h' : Row w a' m ys) (hm : n ≤ 9223372036854775807) (hm' : m ≤ 9223372036854775807) :
    Calls Try.prog 89 #[.slice a n cap, .slice a' m cap'] w fun e w' => e = .returned (.bool (conB xs ys)) ∧ Below w.heap.size w w' := by
  have hs := sumsV_spec a a' n m cap cap' xs ys w h h' hm hm'
  by_cases hv : sumsB xs ys = true
  case neg =>
    have hv : sumsB xs ys = false := by simpa using hv
    rw [conB_no hv]
    rw [hv] at hs
    clear hv h h'
    go_enter Try.func89, Try.ntmps89
    go_wp2_with fail
    refine hs.mono ?_
    rintro e w1 ⟨rfl, hb⟩
    replace hb := Lib.hid hb
    go_wp2_with fail
    go_ret
    exact ⟨rfl, hb.out⟩
  rw [hv] at hs
  obtain ⟨hx, hy⟩ := sums_el hv
  have hp := sumsB_parts hv
  rw [h.1, h'.1] at hp
  obtain ⟨⟨hn1, hn6⟩, ⟨hm1, hm6⟩, hbx, _⟩ := hp
  have hcon := conB_in hv
  rw [h'.1] at hcon
  have lx := h.1
  have ly := h'.1
  have hP := sort_par hx
  have hpx : partOfL xs = sortL xs := partOf_yes hx
  have hpy : partOfL ys = sortL ys := partOf_yes hy
  have hsx : (sortL xs).length = n := by rw [sort_len hx, lx]
  have hsy : (sortL ys).length = m := by rw [sort_len hy, ly]
  have hb : ∀ i, i < (sortL xs).length → (sortL xs).getD i 0 ≤ m := fun i hi => by
    rw [getD_elem hi]
    have hm := (sort_perm hx).mem_iff.1 (List.getElem_mem hi)
    obtain ⟨j, hj, e⟩ := List.getElem_of_mem hm
    have := (hbx j (by omega)).2
    rw [getD_elem hj] at this; omega
  have hcj : conjB (sortL xs) (m : Int) = true := conjB_yes hP.valid (inB_yes (by omega) (by omega)) (allIn_iff.2 fun i hi => ⟨(hP.bd i hi).1, hb i hi⟩)
  have cx : ∀ w : World, Row w a n xs → Calls Try.prog 90 #[.slice a n cap] w fun e w' => (∃ a2 cap2, e = .returned (.tuple #[.slice a2 n cap2, .bool true]) ∧ OwnI w' w.heap.size a2 n cap2 (sortL xs)) ∧ Below w.heap.size w w' := fun w hR => by
    have hc := partOf_spec a n cap xs w hR hm
    rw [hpx, hx] at hc
    unfold GivesB at hc
    rw [hsx] at hc
    exact hc
  have cy : ∀ w : World, Row w a' m ys → Calls Try.prog 90 #[.slice a' m cap'] w fun e w' => (∃ a2 cap2, e = .returned (.tuple #[.slice a2 m cap2, .bool true]) ∧ OwnI w' w.heap.size a2 m cap2 (sortL ys)) ∧ Below w.heap.size w w' := fun w hR => by
    have hc := partOf_spec a' m cap' ys w hR hm'
    rw [hpy, hy] at hc
    unfold GivesB at hc
    rw [hsy] at hc
    exact hc
  have cc : ∀ (w : World) (s : Option Addr) (c : Nat), Row w s n (sortL xs) → Calls Try.prog 140 #[.slice s n c, .int .i64 m] w fun e w' => (∃ a2 cap2, e = .returned (.tuple #[.slice a2 m cap2, .bool true]) ∧ OwnI w' w.heap.size a2 m cap2 (conjL (sortL xs) m)) ∧ Below w.heap.size w w' := fun w s c hR => by
    have hc := conj_spec s n c (sortL xs) m w hR hm
    rw [conjOf_yes hcj, hcj, Int.toNat_natCast] at hc
    unfold GivesB at hc
    rw [conj_len] at hc
    exact hc
  obtain ⟨B, hB⟩ : ∃ B, conB xs ys = B := ⟨_, rfl⟩
  rw [hB] at hcon ⊢
  replace hcon := Lib.hid hcon
  replace cx := Lib.hid cx
  replace cy := Lib.hid cy
  replace cc := Lib.hid cc
  have h := Lib.hid h
  have h' := Lib.hid h'
  clear hv hB hbx hb hcj hP hx hy hpx hpy hsx hsy
  go_enter Try.func89, Try.ntmps89
  go_wp2_with fail
  refine hs.mono ?_
  rintro e w1 ⟨rfl, hb⟩
  have z1 := hb.size
  replace h := Lib.hid (h.out.bel hb)
  replace h' := Lib.hid (h'.out.bel hb)
  replace hb := Lib.hid hb
  go_wp2_with fail
  refine (cx.out _ h.out).mono ?_
  rintro e w2 ⟨⟨a1, c1, rfl, ho⟩, hb2⟩
  have z2 := hb2.size
  have hR1 := Lib.hid ho.row
  replace h' := Lib.hid (h'.out.bel hb2)
  replace hb := Lib.hid (hb.out.trans (hb2.mono z1))
  clear ho hb2 h
  go_wp2_with fail
  refine (cy.out _ h'.out).mono ?_
  rintro e w3 ⟨⟨a2, c2, rfl, ho⟩, hb2⟩
  have z3 := hb2.size
  have hR2 := Lib.hid ho.row
  replace hR1 := Lib.hid (hR1.out.bel hb2)
  replace hb := Lib.hid (hb.out.trans (hb2.mono (by omega)))
  clear ho hb2 h'
  go_wp2_with fail
  refine (cc.out _ _ _ hR1.out).mono ?_
  rintro e w4 ⟨⟨a3, c3, rfl, ho⟩, hb2⟩
  have z4 := hb2.size
  have hR3 := Lib.hid ho.row
  replace hR2 := Lib.hid (hR2.out.bel hb2)
  replace hb := Lib.hid (hb.out.trans (hb2.mono (by omega)))
  clear ho hb2 hR1
  have hc := below_spec a2 a3 m m c2 c3 (sortL ys) (conjL (sortL xs) m) w4 hR2.out hR3.out hm' hm'
  rw [← hcon.out] at hc
  go_wp2_with fail
  refine hc.mono ?_
  rintro e w5 ⟨rfl, hb2⟩
  replace hb2 := Lib.hid hb2
  go_wp2_with fail
  go_ret
  exact ⟨rfl, hb.out.trans (hb2.out.mono (by omega))⟩

theorem con_sok {xs ys : List Int} {B : Bool} (hB : conB xs ys = B) (s s' : Option Addr) (n c m c' : Nat) (w : World) (hR : Row w s n xs) (hR' : Row w s' m ys) (hn : n ≤ 13) (hm : m ≤ 13) :
    Calls Try.prog 89 #[.slice s n c, .slice s' m c'] w fun e w' => e = .returned (.bool B) ∧ Below w.heap.size w w' := by
  subst hB; exact con_spec s s' n m c c' xs ys w hR hR' (by omega) (by omega)
end Go.Proofs.Ytnhcknbbkmaiiaa

