/-
  The contracts of PartOf, of the program and of the model.
-/
import Derived.Test.YteadibgjieimkaaPd
namespace Go.Proofs.Yteadibgjieimkaa
set_option maxRecDepth 100000
open Go.RowKit

theorem int_eq {a b : Int} (h : a = b) : Value.int .i64 a = .int .i64 b := by rw [h]
/-- A row that the call owns takes one number more: what stays. -/
theorem app_bel {wo w3 : World} {B m c : Nat} {s : Option Addr} {L : List Int} {o : Obj} {v : Value} (hO : OwnI wo B s m c L) (hgr : (wo.alloc o).grownBy w3 (Value.slice s m c).ownBlock) (hv : v = .slice s m c) (hB : B ≤ wo.heap.size) : Below B wo w3 := by
  refine ((Below.refl _ _).alloc hB o).grown hgr (by simp; omega) fun g hg => ?_
  rcases hO.cases with ⟨rfl, _, _⟩ | ⟨g', rfl, h2, _⟩
  · cases hg
  · simp [Value.ownBlock] at hg; omega

theorem one_new (w : World) (v : Int) : ∀ j u, [Value.int .i64 v][j]? = some u → (w.alloc (.cells #[.int .i64 v] 3)).cell? ((⟨w.heap.size, 0, none⟩ : Addr).add j) = some u := by
  intro j u hj
  cases j with
  | zero => simp at hj; subst hj; simp [Addr.add]
  | succ j => simp at hj
theorem one_cell (v : Int) : ∀ u, u ∈ [Value.int .i64 v] → u.oneCell' = true := by
  intro u hu; simp at hu; subst hu; rfl

set_option maxHeartbeats 1600000 in
theorem partOf_spec (a : Option Addr) (n cap : Nat) (xs : List Int) (w : World) (h : Row w a n xs) (hm : n ≤ 9223372036854775807) :
    Calls Try.prog 27 #[.slice a n cap] w (GivesB w (partOfL xs) (elB xs)) := by
  have hl := h.1
  obtain ⟨W0, hW0⟩ : ∃ W0, W0 = w.alloc (.cells #[] 3) := ⟨_, rfl⟩
  have hb0 : Below w.heap.size w W0 := by subst hW0; exact (Below.refl _ _).alloc (Nat.le_refl _) _
  have ho : OwnI W0 w.heap.size (some ⟨w.heap.size, 0, none⟩) 0 0 [] := by subst hW0; exact own_empty w w.heap.size w.heap.size rfl (Nat.le_refl _)
  have hR := Lib.hid h
  by_cases hv : elB xs = true
  case neg =>
    have hv : elB xs = false := by simpa using hv
    have ho := Lib.hid ho
    have hb0 := Lib.hid hb0
    rw [partOf_no hv, hv]
    by_cases h6 : n ≤ 6
    · have e := el_in (xs := xs) (by omega)
      rw [hv] at e
      replace e := Lib.hid e
      clear hv h
      go_enter Try.func27, Try.ntmps27
      go_wp2_with fail
      rw [← hW0]
      clear hW0
      refine (each_spec a n cap xs 0 6 _ (hR.out.bel hb0.out) hm).mono ?_
      rintro e' w1 ⟨rfl, rfl⟩
      rw [← e.out]
      go_wp2_with fail
      go_ret2
      exact ⟨⟨_, _, rfl, ho.out⟩, hb0.out⟩
    · clear hv h
      go_enter Try.func27, Try.ntmps27
      go_wp2_with fail
      rw [← hW0]
      go_ret2
      exact ⟨⟨_, _, rfl, ho.out⟩, hb0.out⟩
  have hn := (el_parts hv).1
  rw [hl] at hn
  have e := el_in (xs := xs) (by omega)
  rw [hv] at e
  rw [partOf_yes hv, hv]
  replace e := Lib.hid e
  obtain ⟨i0, hi, hz0, hz1, hz2⟩ := info_parts infoInt
  have ho := Lib.hid ho
  have hb0 := Lib.hid hb0
  generalize hB : w.heap.size = B at *
  clear h hv
  go_enter Try.func27, Try.ntmps27
  go_wp2_with fail
  rw [← hW0]
  clear hW0
  refine (each_spec a n cap xs 0 6 _ (hR.out.bel (by rw [hB]; exact hb0.out)) hm).mono ?_
  rintro e' w1 ⟨rfl, rfl⟩
  rw [← e.out]
  go_wp2_with fail
  go_loopw [4, 5] (fun o x wr => ∃ (k m : Nat) (s : Option Addr) (c : Nat), k ≤ 7 ∧ m ≤ 6 * k ∧ x = .int .i64 (6 - (k : Int)) ∧ o = .slice s m c ∧ Hid (OwnI wr B s m c (srt xs k)) ∧ Hid (Below B w wr)) (fun _ x _ => (intOf x + 1).toNat)
  case atStart => exact ⟨0, 0, _, 0, by omega, by omega, rfl, rfl, ho, hb0⟩
  case round =>
    obtain ⟨k, m, s, c, hk, hmk, rfl, rfl, hO, hB1⟩ := hrel
    obtain ⟨wo, rfl⟩ : ∃ wo : World, wo = wr := ⟨_, rfl⟩
    clear ho hb0
    by_cases hlt : k < 7
    · obtain ⟨v, hv⟩ : ∃ v, 6 - (k : Int) = v := ⟨_, rfl⟩
      have hv0 : 0 ≤ v := by omega
      rw [hv]
      go_wp2_with fail
      go_loopw [4, 6] (fun o i wr => ∃ (j m : Nat) (s : Option Addr) (c : Nat), j ≤ n ∧ m ≤ 6 * k + j ∧ i = .int .i64 j ∧ o = .slice s m c ∧ Hid (OwnI wr B s m c (srt xs k ++ List.replicate ((xs.take j).count v) v)) ∧ Hid (Below B w wr)) (fun _ i _ => n - (intOf i).toNat)
      case atStart => exact ⟨0, m, s, c, Nat.zero_le _, by omega, rfl, rfl, by simpa using hO, hB1⟩
      case round =>
        obtain ⟨j, m, s, c, hj, hmj, rfl, rfl, hO2, hB2⟩ := hrel
        clear hO hB1
        by_cases hlj : j < n
        · obtain ⟨b, off, rfl, hc⟩ := row_at (hR.out.bel (hB ▸ hB2.out)) hlj
          have hct := count_take (xs := xs) v (show j < xs.length by omega)
          by_cases hx : xs.getD j 0 = v
          · rw [hx] at hc
            rw [if_pos hx] at hct
            have hsn : srt xs k ++ List.replicate ((xs.take (j + 1)).count v) v = (srt xs k ++ List.replicate ((xs.take j).count v) v) ++ [v] := by
              rw [hct, List.replicate_succ', List.append_assoc]
            generalize srt xs k ++ List.replicate ((xs.take j).count v) v = L at hsn hO2
            replace hsn := Lib.hid hsn
            replace hct := Lib.hid hct
            have hx := Lib.hid hx
            have hBw := hB2.out.size
            rw [hB] at hBw
            go_wp2_with (at_builtin; refine wpList_append_own _ rfl _ _ 23 rfl B 3 i0 (.int .i64 0) 1 8 Try.underlying23 hi hz0 hz1 hz2 rfl (by decide) _ m (L.map (Value.int .i64)) rfl (World.ownsRow.alloc hO2.out _) ⟨wr.heap.size, 0, none⟩ 1 1 [.int .i64 v] rfl rfl ?c1 ?c2 ?c3 ?c4 ?c5 ?_)
            case c1 => exact one_new _ _
            case c2 => exact one_cell _
            case c3 => unfold maxLen; omega
            case c4 => omega
            case c5 => simp; omega
            intro v' w3 hown hgr _
            obtain ⟨a', cap', rfl, ho3⟩ := own_of (xs := srt xs k ++ List.replicate ((xs.take (j + 1)).count v) v) (by rw [hsn.out, List.map_append]; exact hown)
            have hb3 := app_bel hO2.out hgr rfl hBw
            have hB3 := Lib.hid (hB2.out.trans (hb3.mono (Nat.le_refl _)))
            have ho3 := Lib.hid ho3
            clear hown hgr hb3 hO2 hB2
            go_wp2_with fail
            exact ⟨⟨j + 1, m + 1, a', cap', by omega, by omega, by go_num, rfl, ho3, hB3⟩, by simp [intOf]; omega⟩
          · rw [if_neg hx] at hct
            rw [← Nat.add_zero (List.count v (List.take j xs)), ← hct] at hO2
            have hne : (xs.getD j 0 == v) = false := by simpa using hx
            generalize xs.getD j 0 = y at hc hne
            clear hx
            go_wp2_with fail
            exact ⟨⟨j + 1, m, s, c, by omega, by omega, by go_num, rfl, hO2, hB2⟩, by simp [intOf]; omega⟩
        · have : j = n := by omega
          subst this
          rw [List.take_of_length_le (by omega)] at hO2
          go_wp2_with fail
          exact ⟨⟨k + 1, m, s, c, by omega, by omega, int_eq (by omega), rfl, by subst hv; exact hO2, hB2⟩, by simp [intOf]; omega⟩
    · have : k = 7 := by omega
      subst this
      go_wp2_with fail
      go_ret2
      have ho := hO.out
      have hml : m = (sortL xs).length := ho.len.symm
      subst hml
      exact ⟨⟨s, c, rfl, by rw [hB]; exact ho⟩, by rw [hB]; exact hB1.out⟩

/-- slices.Clone at no element. -/
theorem clone_zero (a : Option Addr) (cap : Nat) (w : World) :
    Calls Try.prog 76 #[.slice a 0 cap] w fun e w' => (∃ a cap', e = .returned (.slice a 0 cap') ∧ OwnI w' w.heap.size a 0 cap' []) ∧ Below w.heap.size w w' := by
  obtain ⟨i0, hi, hz0, hz1, hz2⟩ := info_parts infoInt
  have hnil := fun wx => Lib.run_eql_slice_nil (P := Try.prog) wx 23 3 a 0 cap 0 0 Try.underlying23
  cases a with
  | none =>
    go_enter Try.func76, Try.ntmps76
    go_wp2
    go_ret
    exact ⟨⟨none, 0, rfl, own_nil _ _⟩, Below.refl _ _⟩
  | some p =>
    go_enter Try.func76, Try.ntmps76
    go_wp2_with (at_builtin; refine wpList_append_own _ rfl _ _ 23 rfl w.heap.size 3 i0 (.int .i64 0) 1 8 Try.underlying23 hi hz0 hz1 hz2 rfl (by decide) _ 0 [] rfl (World.ownsRow_lit w #[] 0 (Nat.le_refl _) (by decide) rfl) p 0 cap [] rfl ?c1 ?c2 ?c3 ?c4 ?c5 ?c6 ?_)
    case c1 => simp
    case c2 => exact fun j u hj => by simp at hj
    case c3 => exact fun u hu => by simp at hu
    case c4 => unfold maxLen; omega
    case c5 => omega
    case c6 => simp
    intro v' w1 hown hgr hnil'
    obtain ⟨a, c, rfl, ho⟩ := own_of (xs := []) (n := 0) (by simpa using hown)
    have bb : Below w.heap.size w w1 := ((Below.refl _ _).alloc (Nat.le_refl _) _).grown hgr (by simp) (fun k hk => by simp [Value.ownBlock] at hk; omega)
    have ho := Lib.hid ho
    clear hown hgr hnil'
    go_wp2
    go_ret
    exact ⟨⟨a, c, rfl, ho.out⟩, bb⟩
theorem insertion_zero (a : Option Addr) (cap : Nat) (w : World) :
    Calls Try.prog 88 #[.slice a 0 cap, .int .i64 0, .int .i64 0, .func (.func 78) #[] #[]] w fun e w' => e = .returned (.tuple #[]) ∧ w = w' := by
  go_enter Try.func88, Try.ntmps88
  go_wp2_with fail
  refine wp_loop_rounds 1 ?_
  rw [rounds_succ]
  go_wp2_with fail
  go_end0
  exact ⟨rfl, rfl⟩
theorem pdq_zero (a : Option Addr) (cap : Nat) (l : Int) (w : World) :
    Calls Try.prog 82 #[.slice a 0 cap, .int .i64 0, .int .i64 0, .int .i64 l, .func (.func 78) #[] #[]] w fun e w' => e = .returned (.tuple #[]) ∧ w = w' := by
  go_enter Try.func82, Try.ntmps82
  go_wp2_with fail
  refine wp_loop_rounds 1 ?_
  rw [rounds_succ]
  go_wp2_with fail
  refine (insertion_zero _ _ _).mono ?_
  rintro e w' ⟨rfl, rfl⟩
  go_wp2_with fail
  (try simp only [Exit.inBlock, Exit.then])
  refine bodyPost_ret (results_none rfl _ _ _) rfl ?_
  exact ⟨rfl, rfl⟩
theorem sort_zero (a : Option Addr) (cap : Nat) (w : World) :
    Calls Try.prog 77 #[.slice a 0 cap, .func (.func 78) #[] #[]] w fun e w' => e = .returned (.tuple #[]) ∧ w = w' := by
  have hc := len_any 0 w (by omega)
  go_enter Try.func77, Try.ntmps77
  go_wp2_with fail
  refine hc.mono ?_
  rintro e w' ⟨⟨l, rfl⟩, rfl⟩
  go_wp2_with fail
  refine (pdq_zero _ _ l _).mono ?_
  rintro e w' ⟨rfl, rfl⟩
  go_wp2_with fail
  go_end0
  exact ⟨rfl, rfl⟩
/-- A list that the call owns, sorted: whatever its length. -/
theorem sort_own (B : Nat) (a : Option Addr) (n cap : Nat) (xs : List Int) (w : World) (h : OwnI w B a n cap xs) (hv : elB xs = true) (hB : B ≤ w.heap.size) :
    Calls Try.prog 77 #[.slice a n cap, .func (.func 78) #[] #[]] w fun e w' => e = .returned (.tuple #[]) ∧ OwnI w' B a n cap (sortL xs) ∧ Below B w w' := by
  have hn := (el_parts hv).1
  have hl := h.len
  by_cases h0 : n = 0
  · subst h0
    have : xs = [] := List.length_eq_zero_iff.1 hl
    subst this
    exact (sort_zero a cap w).mono fun e w' hh => ⟨hh.1, hh.2 ▸ h, hh.2 ▸ Below.refl _ _⟩
  · obtain ⟨g, rfl⟩ : ∃ g, a = some ⟨g, 0, none⟩ := by
      rcases h.cases with ⟨_, h1, _⟩ | ⟨g, h1, _⟩
      · omega
      · exact ⟨g, h1⟩
    have hg := (rng_own h _ rfl).1
    refine (sortFunc_lib B g n cap xs w h (by omega)).mono ?_
    rintro e w' ⟨rfl, ys, hp, hs, ho, hgr⟩
    rw [sort_unique hv hp hs] at ho
    have hg : B ≤ g := hg
    exact ⟨rfl, ho, (grown_below hgr).mono (by omega)⟩

set_option maxHeartbeats 800000 in
/-- A list in descending order: the call's own. -/
theorem ptOf_impl (a : Option Addr) (n cap : Nat) (xs : List Int) (w : World) (h : Row w a n xs) (hv : elB xs = true) :
    Calls Try.prog 63 #[.slice a n cap] w (GivesK w n (sortL xs)) := by
  have hl := h.1
  have hn := (el_parts hv).1
  rw [hl] at hn
  have hcl : Calls Try.prog 76 #[.slice a n cap] w fun e w' => (∃ a cap', e = .returned (.slice a n cap') ∧ OwnI w' w.heap.size a n cap' xs) ∧ Below w.heap.size w w' := by
    by_cases h0 : n = 0
    · subst h0
      have : xs = [] := List.length_eq_zero_iff.1 hl
      subst this
      exact clone_zero a cap w
    · obtain ⟨b, off, rfl, hcc⟩ := h.2.resolve_left h0
      exact clone_any b off n cap xs w hl hcc (by omega) (by omega)
  have hv := Lib.hid hv
  clear h
  go_enter Try.func63, Try.ntmps63
  go_wp2_with fail
  refine hcl.mono ?_
  rintro e w1 ⟨⟨a1, c1, rfl, ho⟩, hb⟩
  replace ho := Lib.hid ho
  replace hb := Lib.hid hb
  go_wp2_with fail
  refine (sort_own w.heap.size a1 n c1 xs _ ho.out hv.out hb.out.size).mono ?_
  rintro e w2 ⟨rfl, ho2, hb2⟩
  replace ho2 := Lib.hid ho2
  replace hb2 := Lib.hid hb2
  go_wp2_with fail
  go_ret
  exact ⟨⟨a1, c1, rfl, ho2.out⟩, hb.out.trans hb2.out⟩

set_option maxHeartbeats 800000 in
theorem partOf_impl (a : Option Addr) (n cap : Nat) (xs : List Int) (w : World) (h : Row w a n xs) (hm : n ≤ 9223372036854775807) :
    Calls Try.prog 26 #[.slice a n cap] w (GivesB w (partOfL xs) (elB xs)) := by
  have hl := h.1
  have hc := el_impl a n cap xs w h hm
  by_cases hv : elB xs = true
  case neg =>
    have hv : elB xs = false := by simpa using hv
    rw [partOf_no hv, hv]
    rw [hv] at hc
    clear hv h
    go_enter Try.func26, Try.ntmps26
    go_wp2_with fail
    refine hc.mono ?_
    rintro e w1 ⟨rfl, rfl⟩
    go_wp2_with fail
    go_ret2
    exact ⟨⟨_, _, rfl, own_empty w w.heap.size w.heap.size rfl (Nat.le_refl _)⟩, (Below.refl _ _).alloc (Nat.le_refl _) _⟩
  rw [hv] at hc
  rw [partOf_yes hv, hv]
  have hp := ptOf_impl a n cap xs w h hv
  clear h hv
  go_enter Try.func26, Try.ntmps26
  go_wp2_with fail
  refine hc.mono ?_
  rintro e w1 ⟨rfl, rfl⟩
  go_wp2_with fail
  refine hp.mono ?_
  rintro e w1 ⟨⟨a1, c1, rfl, ho⟩, hb⟩
  replace ho := Lib.hid ho
  replace hb := Lib.hid hb
  go_wp2_with fail
  go_ret2
  have ho := ho.out
  have hml : n = (sortL xs).length := ho.len.symm
  subst hml
  exact ⟨⟨a1, c1, rfl, ho⟩, hb.out⟩
end Go.Proofs.Yteadibgjieimkaa

