/-
  The contracts of PartConj, of the program and of the model.
-/
import Derived.Test.YthllfkgceoenbaaPg
namespace Go.Proofs.Ythllfkgceoenbaa
open Go.RowKit

set_option maxHeartbeats 1600000 in
theorem l3conj_spec (a : Option Addr) (m cap : Nat) (xs : List Int) (n : Nat) (w : World) (h : Row w a m xs) (hm : m ≤ 6) (hn : n ≤ 6) :
    Calls Try.prog 53 #[.slice a m cap, .int .i64 n] w (GivesK w n (conjL xs n)) := by
  have hl := h.1
  obtain ⟨i0, hi, hz0, hz1, hz2⟩ := info_parts infoInt
  have hcb : Hid (∀ j i, 0 ≤ cjI xs j i ∧ cjI xs j i ≤ j) := fun j i => cj_bd xs j i
  obtain ⟨W0, hW0⟩ : ∃ W0, W0 = w.alloc (.cells #[] 3) := ⟨_, rfl⟩
  have hb0 : Below w.heap.size w W0 := by subst hW0; exact (Below.refl _ _).alloc (Nat.le_refl _) _
  have ho : OwnI W0 w.heap.size (some ⟨w.heap.size, 0, none⟩) 0 0 [] := by subst hW0; exact own_empty w w.heap.size w.heap.size rfl (Nat.le_refl _)
  have hR := Lib.hid h
  replace ho := Lib.hid ho
  replace hb0 := Lib.hid hb0
  generalize hB : w.heap.size = B at *
  clear h
  go_enter Try.func53, Try.ntmps53
  go_wp2_with fail
  rw [← hW0]
  clear hW0
  go_loopw [5, 6] (fun o x wr => ∃ (k : Nat) (s : Option Addr) (c : Nat), k ≤ n ∧ x = .int .i64 ((k : Int) + 1) ∧ o = .slice s k c ∧ Hid (OwnI wr B s k c (conjL xs k)) ∧ Hid (Below B w wr)) (fun _ x _ => n + 1 - (intOf x).toNat)
  case atStart => exact ⟨0, _, 0, by omega, rfl, rfl, ho, hb0⟩
  case round =>
    obtain ⟨k, s, c, hk, rfl, rfl, hO, hB1⟩ := hrel
    obtain ⟨wo, rfl⟩ : ∃ wo : World, wo = wr := ⟨_, rfl⟩
    clear ho hb0
    by_cases hlt : k < n
    · go_wp2_with fail
      go_loop [7, 8] (fun o i => ∃ j : Nat, j ≤ m ∧ i = .int .i64 j ∧ o = .int .i64 (cjI xs j k)) (fun _ i => m - (intOf i).toNat)
      case atStart => exact ⟨0, Nat.zero_le _, rfl, rfl⟩
      case round =>
        obtain ⟨j, hj, rfl, rfl⟩ := hrel
        have hcn := hcb.out j k
        by_cases hlj : j < m
        · obtain ⟨b, off, rfl, hck⟩ := row_at (hR.out.bel (by rw [hB]; exact hB1.out)) hlj
          have hsn : cjI xs (j + 1) k = cjI xs j k + if (k : Int) + 1 ≤ xs.getD j 0 then 1 else 0 := rfl
          generalize cjI xs j k = q at hcn hsn
          by_cases hx : (k : Int) + 1 ≤ xs.getD j 0
          · rw [if_pos hx] at hsn
            generalize xs.getD j 0 = x at hck hx
            replace hsn := Lib.hid hsn
            go_wp2_with fail
            exact ⟨⟨j + 1, by omega, by go_num, by rw [hsn.out]⟩, by simp [intOf]; omega⟩
          · rw [if_neg hx] at hsn
            have hsn : cjI xs (j + 1) k = q := by omega
            generalize xs.getD j 0 = x at hck hx
            replace hsn := Lib.hid hsn
            go_wp2_with fail
            exact ⟨⟨j + 1, by omega, by go_num, by rw [hsn.out]⟩, by simp [intOf]; omega⟩
        · have : j = m := by omega
          subst this
          have hsn : conjL xs (k + 1) = conjL xs k ++ [cjI xs j k] := by
            rw [← hl, cj_all]; exact rows_snoc _ _
          generalize cjI xs j k = q at hcn hsn
          generalize conjL xs k = L at hsn hO
          replace hsn := Lib.hid hsn
          have hBw := hB1.out.size
          rw [hB] at hBw
          go_wp2_with (at_builtin; refine wpList_append_own _ rfl _ _ 23 rfl B 3 i0 (.int .i64 0) 1 8 Try.underlying23 hi hz0 hz1 hz2 rfl (by decide) _ k (L.map (Value.int .i64)) rfl (World.ownsRow.alloc hO.out _) ⟨wo.heap.size, 0, none⟩ 1 1 [.int .i64 q] rfl rfl ?c1 ?c2 ?c3 ?c4 ?c5 ?_)
          case c2 => first | rfl | exact one_cell _
          case c3 => unfold maxLen; omega
          case c4 => omega
          case c5 => first | omega | (simp; omega)
          intro v' w3 hown hgr _
          obtain ⟨a', cap', rfl, ho3⟩ := own_of (xs := conjL xs (k + 1)) (by rw [hsn.out, List.map_append]; exact hown)
          have hb3 := app_bel hO.out hgr rfl hBw
          have hB3 := Lib.hid (hB1.out.trans (hb3.mono (Nat.le_refl _)))
          replace ho3 := Lib.hid ho3
          clear hown hgr hb3 hO hB1
          go_wp2_with fail
          exact ⟨⟨k + 1, a', cap', by omega, by go_num, rfl, ho3, hB3⟩, by simp [intOf]; omega⟩
    · have : k = n := by omega
      subst this
      go_wp2_with fail
      go_ret
      exact ⟨⟨s, c, rfl, by rw [hB]; exact hO.out⟩, by rw [hB]; exact hB1.out⟩

/-- Whether PartConj succeeds, and what it gives. -/
def conjB (xs : List Int) (n : Int) : Bool := partB xs && (inB n 0 6 && allIn xs 0 n)
def conjOf (xs : List Int) (n : Int) : List Int := if conjB xs n = true then conjL xs n.toNat else []
theorem conjB_1 {xs : List Int} {n : Int} (h : partB xs = false) : conjB xs n = false := by rw [conjB, h]; rfl
theorem conjB_2 {xs : List Int} {n : Int} (h : inB n 0 6 = false) : conjB xs n = false := by rw [conjB, h, Bool.false_and, Bool.and_false]
theorem conjB_3 {xs : List Int} {n : Int} (h : allIn xs 0 n = false) : conjB xs n = false := by rw [conjB, h, Bool.and_false, Bool.and_false]
theorem conjB_yes {xs : List Int} {n : Int} (h1 : partB xs = true) (h2 : inB n 0 6 = true) (h3 : allIn xs 0 n = true) : conjB xs n = true := by rw [conjB, h1, h2, h3]; rfl
theorem conjB_parts {xs : List Int} {n : Int} (h : conjB xs n = true) : Par xs ∧ (0 ≤ n ∧ n ≤ 6) ∧ ∀ i, i < xs.length → xs.getD i 0 ≤ n := by
  simp only [conjB, Bool.and_eq_true] at h
  exact ⟨.of h.1, inB_iff.1 h.2.1, fun i hi => (allIn_iff.1 h.2.2 i hi).2⟩
theorem conjOf_yes {xs : List Int} {n : Int} (h : conjB xs n = true) : conjOf xs n = conjL xs n.toNat := if_pos h
theorem conjOf_no {xs : List Int} {n : Int} (h : conjB xs n = false) : conjOf xs n = [] := by rw [conjOf, h]; rfl
theorem conjOf_len (xs : List Int) (n : Int) : (conjOf xs n).length ≤ 6 := by
  by_cases h : conjB xs n = true
  · rw [conjOf_yes h, conj_len]; have := (conjB_parts h).2.1; omega
  · rw [conjOf_no (by simpa using h)]; simp

theorem givesK_B {w w' : World} {n : Nat} {L : List Int} {a : Option Addr} {c : Nat} (hl : L.length = n) (h : OwnI w' w.heap.size a n c L) (hb : Below w.heap.size w w') (ok : Bool) : GivesB w L ok (.returned (.tuple #[.slice a n c, .bool ok])) w' := by
  subst hl; exact ⟨⟨a, c, rfl, h⟩, hb⟩

set_option maxHeartbeats 800000 in
theorem conj_impl (a : Option Addr) (m cap : Nat) (xs : List Int) (n : Int) (w : World) (h : Row w a m xs) (hm : m ≤ 9223372036854775807) :
    Calls Try.prog 27 #[.slice a m cap, .int .i64 n] w (GivesB w (conjOf xs n) (conjB xs n)) := by
  have hl := h.1
  have hv := pvalid_impl a m cap xs w h hm
  by_cases hp : partB xs = true
  case neg =>
    have hp : partB xs = false := by simpa using hp
    rw [conjOf_no (conjB_1 hp), conjB_1 hp]
    rw [hp] at hv
    clear hp h
    go_enter Try.func27, Try.ntmps27
    go_wp2_with fail
    refine hv.mono ?_
    rintro e w1 ⟨rfl, hb⟩
    replace hb := Lib.hid hb
    go_wp2_with fail
    go_ret2
    exact ⟨⟨_, _, rfl, own_empty w1 w.heap.size w1.heap.size rfl hb.out.size⟩, hb.out.alloc hb.out.size _⟩
  rw [hp] at hv
  have hP := Lib.hid (Par.of hp)
  by_cases h1 : n < 0
  · have hi := conjB_2 (xs := xs) (inB_no (lo := 0) (hi := 6) (.inl h1))
    rw [conjOf_no hi, hi]
    clear hp h hi
    go_enter Try.func27, Try.ntmps27
    go_wp2_with fail
    refine hv.mono ?_
    rintro e w1 ⟨rfl, hb⟩
    replace hb := Lib.hid hb
    go_wp2_with fail
    go_ret2
    exact ⟨⟨_, _, rfl, own_empty w1 w.heap.size w1.heap.size rfl hb.out.size⟩, hb.out.alloc hb.out.size _⟩
  by_cases h2 : 6 < n
  · have hi := conjB_2 (xs := xs) (inB_no (lo := 0) (hi := 6) (.inr h2))
    rw [conjOf_no hi, hi]
    clear hp h hi
    go_enter Try.func27, Try.ntmps27
    go_wp2_with fail
    refine hv.mono ?_
    rintro e w1 ⟨rfl, hb⟩
    replace hb := Lib.hid hb
    go_wp2_with fail
    go_ret2
    exact ⟨⟨_, _, rfl, own_empty w1 w.heap.size w1.heap.size rfl hb.out.size⟩, hb.out.alloc hb.out.size _⟩
  have hin : inB n 0 6 = true := inB_yes (by omega) (by omega)
  have hR := Lib.hid h
  clear h
  by_cases h3 : allIn xs 0 n = true
  case neg =>
    have h3 : allIn xs 0 n = false := by simpa using h3
    have hi := conjB_3 (xs := xs) h3
    rw [conjOf_no hi, hi]
    replace h3 := Lib.hid h3
    clear hp hi hin
    go_enter Try.func27, Try.ntmps27
    go_wp2_with fail
    refine hv.mono ?_
    rintro e w1 ⟨rfl, hb⟩
    have hw := within_impl a m cap xs n w1 (hR.out.bel hb) hm
    rw [h3.out] at hw
    replace hb := Lib.hid hb
    go_wp2_with fail
    refine hw.mono ?_
    rintro e w2 ⟨rfl, rfl⟩
    go_wp2_with fail
    go_ret2
    exact ⟨⟨_, _, rfl, own_empty w1 w.heap.size w1.heap.size rfl hb.out.size⟩, hb.out.alloc hb.out.size _⟩
  have hi := conjB_yes hp hin h3
  rw [conjOf_yes hi, hi]
  have hbd := Lib.hid (conjB_parts hi).2.2
  replace h3 := Lib.hid h3
  clear hp hi hin
  obtain ⟨n, rfl⟩ := Int.eq_ofNat_of_zero_le (by omega : 0 ≤ n)
  rw [Int.toNat_natCast]
  go_enter Try.func27, Try.ntmps27
  go_wp2_with fail
  refine hv.mono ?_
  rintro e w1 ⟨rfl, hb⟩
  have hw := within_impl a m cap xs n w1 (hR.out.bel hb) hm
  rw [h3.out] at hw
  replace hb := Lib.hid hb
  go_wp2_with fail
  refine hw.mono ?_
  rintro e w2 ⟨rfl, rfl⟩
  go_wp2_with fail
  refine (mconj_impl a m cap xs n w1 (hR.out.bel hb.out) hP.out (by omega) hbd.out).mono ?_
  rintro e w2 ⟨⟨a2, c2, rfl, ho⟩, hb2⟩
  replace ho := Lib.hid ho
  replace hb2 := Lib.hid hb2
  go_wp2_with fail
  go_ret2
  exact givesK_B (conj_len _ _) (ho.out.mono hb.out.size) (hb.out.trans (hb2.out.mono hb.out.size)) true

set_option maxHeartbeats 800000 in
theorem conj_spec (a : Option Addr) (m cap : Nat) (xs : List Int) (n : Int) (w : World) (h : Row w a m xs) (hm : m ≤ 9223372036854775807) :
    Calls Try.prog 28 #[.slice a m cap, .int .i64 n] w (GivesB w (conjOf xs n) (conjB xs n)) := by
  have hl := h.1
  have hv := pvalid_spec a m cap xs w h hm
  by_cases hp : partB xs = true
  case neg =>
    have hp : partB xs = false := by simpa using hp
    rw [conjOf_no (conjB_1 hp), conjB_1 hp]
    rw [hp] at hv
    clear hp h
    go_enter Try.func28, Try.ntmps28
    go_wp2_with fail
    refine hv.mono ?_
    rintro e w1 ⟨rfl, hb⟩
    replace hb := Lib.hid hb
    go_wp2_with fail
    go_ret2
    exact ⟨⟨_, _, rfl, own_empty w1 w.heap.size w1.heap.size rfl hb.out.size⟩, hb.out.alloc hb.out.size _⟩
  rw [hp] at hv
  have hP := Lib.hid (Par.of hp)
  have hR := Lib.hid h
  clear h
  by_cases hin : inB n 0 6 = true
  case neg =>
    have hin : inB n 0 6 = false := by simpa using hin
    have hi := conjB_2 (xs := xs) hin
    rw [conjOf_no hi, hi]
    replace hin := Lib.hid hin
    clear hp hi
    go_enter Try.func28, Try.ntmps28
    go_wp2_with fail
    refine hv.mono ?_
    rintro e w1 ⟨rfl, hb⟩
    replace hb := Lib.hid hb
    go_wp2_with fail
    refine (in_any n 0 6 _).mono ?_
    rintro e w2 ⟨rfl, rfl⟩
    rw [hin.out]
    go_wp2_with fail
    go_ret2
    exact ⟨⟨_, _, rfl, own_empty w1 w.heap.size w1.heap.size rfl hb.out.size⟩, hb.out.alloc hb.out.size _⟩
  have hn6 := inB_iff.1 hin
  by_cases h3 : allIn xs 0 n = true
  case neg =>
    have h3 : allIn xs 0 n = false := by simpa using h3
    have hi := conjB_3 (xs := xs) h3
    rw [conjOf_no hi, hi]
    replace h3 := Lib.hid h3
    replace hin := Lib.hid hin
    clear hp hi
    go_enter Try.func28, Try.ntmps28
    go_wp2_with fail
    refine hv.mono ?_
    rintro e w1 ⟨rfl, hb⟩
    have hw := each_spec a m cap xs 0 n w1 (hR.out.bel hb) hm
    rw [h3.out] at hw
    replace hb := Lib.hid hb
    go_wp2_with fail
    refine (in_any n 0 6 _).mono ?_
    rintro e w2 ⟨rfl, rfl⟩
    rw [hin.out]
    go_wp2_with fail
    refine hw.mono ?_
    rintro e w2 ⟨rfl, rfl⟩
    go_wp2_with fail
    go_ret2
    exact ⟨⟨_, _, rfl, own_empty w1 w.heap.size w1.heap.size rfl hb.out.size⟩, hb.out.alloc hb.out.size _⟩
  have hi := conjB_yes hp hin h3
  rw [conjOf_yes hi, hi]
  have h6 := Lib.hid hP.out.l
  replace h3 := Lib.hid h3
  replace hin := Lib.hid hin
  clear hp hi
  obtain ⟨n, rfl⟩ := Int.eq_ofNat_of_zero_le hn6.1
  rw [Int.toNat_natCast]
  go_enter Try.func28, Try.ntmps28
  go_wp2_with fail
  refine hv.mono ?_
  rintro e w1 ⟨rfl, hb⟩
  have hw := each_spec a m cap xs 0 n w1 (hR.out.bel hb) hm
  rw [h3.out] at hw
  replace hb := Lib.hid hb
  go_wp2_with fail
  refine (in_any n 0 6 _).mono ?_
  rintro e w2 ⟨rfl, rfl⟩
  rw [hin.out]
  go_wp2_with fail
  refine hw.mono ?_
  rintro e w2 ⟨rfl, rfl⟩
  go_wp2_with fail
  refine (l3conj_spec a m cap xs n w1 (hR.out.bel hb.out) (by rw [← hl]; exact h6.out) (by omega)).mono ?_
  rintro e w2 ⟨⟨a2, c2, rfl, ho⟩, hb2⟩
  replace ho := Lib.hid ho
  replace hb2 := Lib.hid hb2
  go_wp2_with fail
  go_ret2
  exact givesK_B (conj_len _ _) (ho.out.mono hb.out.size) (hb.out.trans (hb2.out.mono hb.out.size)) true
end Go.Proofs.Ythllfkgceoenbaa

