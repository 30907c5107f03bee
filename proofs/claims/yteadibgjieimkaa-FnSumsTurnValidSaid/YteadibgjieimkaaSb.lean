/-
  The contracts of the program's functions that make sums, and of the model's column sums.
-/
import Derived.Test.YteadibgjieimkaaSa
import Derived.Shelf.Abstract
namespace Go.Proofs.Yteadibgjieimkaa
set_option maxRecDepth 100000
open Go.RowKit

set_option maxHeartbeats 800000 in
theorem csums_spec (W : Int) (a : Option Addr) (len cap : Nat) (xs : List Int) (w : World) (h : Row w a len xs) (hm : len ≤ 9223372036854775807) :
    Calls Try.prog 53 #[.agg #[.int .i64 W, .slice a len cap]] w (GivesL w (csOut W xs)) := by
  have hl := h.1
  have H := (h.alloc (.cells #[.int .i64 W, .slice a len cap] 29)).alloc (.cells #[] 3)
  obtain ⟨W0, hW0⟩ : ∃ W0, W0 = (w.alloc (.cells #[.int .i64 W, .slice a len cap] 29)).alloc (.cells #[] 3) := ⟨_, rfl⟩
  have hb0 : Below w.heap.size w W0 := by subst hW0; exact ((Below.refl _ _).alloc (Nat.le_refl _) _).alloc (by simp) _
  have ho : OwnI W0 (w.heap.size + 1) (some ⟨w.heap.size + 1, 0, none⟩) 0 0 [] := by subst hW0; exact own_empty (w.alloc (.cells #[.int .i64 W, .slice a len cap] 29)) (w.heap.size + 1) (w.heap.size + 1) (by simp) (by omega)
  have x0 : W0.cell? ⟨w.heap.size, 0, none⟩ = some (.int .i64 W) := by subst hW0; simp
  have x1 : W0.cell? ⟨w.heap.size, 1, none⟩ = some (.slice a len cap) := by subst hW0; simp
  have hs0 : W0.heap.size = w.heap.size + 2 := by subst hW0; simp
  by_cases hv : validB W xs = true
  case neg =>
    rw [show csOut W xs = [] from if_neg hv]
    have hv : validB W xs = false := by simpa using hv
    go_enter Try.func53, Try.ntmps53
    go_wp2_with fail
    rw [← hW0] at H ⊢
    refine (valid_spec _ _ _ _ xs _ H hm).mono ?_
    rintro e w1 ⟨rfl, hb⟩
    rw [hv]
    go_wp2_with fail
    go_ret
    exact ⟨⟨_, _, rfl, (OwnI.bel ho hb).mono (by omega)⟩, hb0.trans (hb.mono hb0.size)⟩
  rw [show csOut W xs = csL xs len W.toNat by rw [← hl]; exact if_pos hv]
  have hW := validB_W hv
  have hL := validB_len hv
  obtain ⟨W, rfl⟩ := Int.eq_ofNat_of_zero_le (by omega : 0 ≤ W)
  rw [Int.toNat_natCast]
  have hrow : Hid (∀ i, i < len → 0 ≤ xs.getD i 0 ∧ xs.getD i 0 ≤ pw W - 1 ∧ xs.getD i 0 ≤ 63) := fun i hi => validB_row hv (by omega)
  have hbd : Hid (∀ j n, 0 ≤ csI xs j n ∧ csI xs j n ≤ n) := fun j n => csI_bd xs j n
  obtain ⟨i0, hi, hz0, hz1, hz2⟩ := info_parts infoInt
  go_enter Try.func53, Try.ntmps53
  go_wp2_with fail
  rw [← hW0] at H ⊢
  refine (valid_spec _ _ _ _ xs _ H hm).mono ?_
  rintro e w1 ⟨rfl, hb⟩
  rw [hv]
  have x0 := kept hb (by simp; omega) x0
  have x1 := kept hb (by simp; omega) x1
  have ho := Lib.hid (ho.bel hb)
  have hB := Lib.hid (hb0.trans (hb.mono hb0.size))
  have h := Lib.hid h
  clear hb H hW0 hb0 hv
  go_wp2_with fail
  go_loopw [3, 4] (fun o i wr => ∃ (k : Nat) (s : Option Addr) (c : Nat), k ≤ W ∧ i = .int .i64 k ∧ o = .slice s k c ∧ Hid (OwnI wr (w.heap.size + 1) s k c (csL xs len k)) ∧ wr.cell? ⟨w.heap.size, 0, none⟩ = some (.int .i64 W) ∧ wr.cell? ⟨w.heap.size, 1, none⟩ = some (.slice a len cap) ∧ Hid (Below w.heap.size w wr)) (fun _ i _ => W - (intOf i).toNat)
  case atStart => exact ⟨0, _, 0, Nat.zero_le _, rfl, rfl, ho, x0, x1, hB⟩
  case round =>
    obtain ⟨k, s, c, hk, rfl, rfl, hO, y0, y1, hB⟩ := hrel
    obtain ⟨wo, rfl⟩ : ∃ wo : World, wo = wr := ⟨_, rfl⟩
    clear x0 x1
    have hsz : w.heap.size < wo.heap.size := block_lt y0
    by_cases hlt : k < W
    · go_wp2_with fail
      go_loop [5, 6] (fun o i => ∃ j : Nat, j ≤ len ∧ i = .int .i64 j ∧ o = .int .i64 (csI xs k j)) (fun _ i => len - (intOf i).toNat)
      case atStart => exact ⟨0, Nat.zero_le _, rfl, rfl⟩
      case round =>
        obtain ⟨j, hj, rfl, rfl⟩ := hrel
        have hcn := hbd.out k j
        by_cases hlj : j < len
        · obtain ⟨b, off, rfl, hck⟩ := row_at (h.out.bel hB.out) hlj
          have hr := hrow.out j hlj
          have hsn := csI_succ xs k j
          generalize xs.getD j 0 = x at hck hr hsn
          have hbi := bit_01 x k
          have hsn := Lib.hid hsn
          go_wp2_with fail
          refine (bit_any x k _ hr.1 (by omega) (by omega)).mono ?_
          rintro e w2 ⟨rfl, rfl⟩
          go_wp2_with fail
          exact ⟨⟨j + 1, by omega, by go_num, by rw [hsn.out]⟩, by simp [intOf]; omega⟩
        · have : j = len := by omega
          subst this
          have hsn : csL xs j (k + 1) = csL xs j k ++ [csI xs k j] := rows_snoc _ _
          generalize csI xs k j = x at hcn hsn
          have hsn := Lib.hid hsn
          go_wp2_with (at_builtin; refine wpList_append_own _ rfl _ _ 23 rfl (w.heap.size + 1) 3 i0 (.int .i64 0) 1 8 Try.underlying23 hi hz0 hz1 hz2 rfl (by decide) _ k ((csL xs j k).map (Value.int .i64)) rfl (World.ownsRow.alloc hO.out _) ⟨wo.heap.size, 0, none⟩ 1 1 [.int .i64 x] rfl rfl ?c1 ?c2 ?c3 ?c4 ?c5 ?_)
          case c2 => rfl
          case c3 => unfold maxLen; omega
          case c4 => omega
          case c5 => omega
          intro v' w3 hown hgr _
          obtain ⟨a', cap', rfl, ho3⟩ := own_of (xs := csL xs j (k + 1)) (by rw [hsn.out, List.map_append]; exact hown)
          have hfar : ∀ g, (Value.slice s k c).ownBlock = some g → w.heap.size + 1 ≤ g := fun g hg => by
            rcases hO.out.cases with ⟨rfl, _, _⟩ | ⟨g', rfl, h2, _⟩
            · cases hg
            · simp [Value.ownBlock] at hg; omega
          have hb3 : Below (w.heap.size + 1) wo w3 := ((Below.refl _ _).alloc (by omega) _).grown hgr (by simp; omega) hfar
          have y0 := kept hb3 (by simp) y0
          have y1 := kept hb3 (by simp) y1
          have hB3 := Lib.hid (hB.out.trans (hb3.mono (by omega)))
          have ho3 := Lib.hid ho3
          clear hown hgr hfar hb3 hO hB
          go_wp2_with fail
          exact ⟨⟨k + 1, a', cap', by omega, by go_num, rfl, ho3, y0, y1, hB3⟩, by simp [intOf]; omega⟩
    · have : k = W := by omega
      subst this
      go_wp2_with fail
      go_ret
      exact ⟨⟨s, c, by rw [cs_len]; rfl, by rw [cs_len]; exact hO.out.mono (by omega)⟩, hB.out⟩

/-- What the sums are while they are made. -/
def partL (F : Nat → Nat → Int) (n m k j : Nat) : List Int := rowsL (fun i => if i < k then sumI (F i) m else if i = k then sumI (F k) j else 0) n
theorem part_len (F : Nat → Nat → Int) (n m k j : Nat) : (partL F n m k j).length = n := rows_len _ _
theorem part_zero (F : Nat → Nat → Int) (n m : Nat) : partL F n m 0 0 = List.replicate n 0 := by
  rw [← rows_zero]; exact rows_ext fun _ _ => by rw [if_neg (by omega)]; split <;> simp_all [sumI]
theorem part_get (F : Nat → Nat → Int) {n m k j : Nat} (hk : k < n) : (partL F n m k j).getD k 0 = sumI (F k) j := by
  rw [show (partL F n m k j).getD k 0 = _ from rows_get _ hk, if_neg (by omega), if_pos rfl]
theorem part_set (F : Nat → Nat → Int) {n m k j : Nat} (hk : k < n) : (partL F n m k j).set k (sumI (F k) (j + 1)) = partL F n m k (j + 1) :=
  rows_set _ _ hk (by simp) fun _ _ hne => by
    show (if _ < k then _ else if _ = k then _ else (0 : Int)) = (if _ < k then _ else if _ = k then _ else (0 : Int))
    rw [if_neg hne, if_neg hne]
theorem part_next (F : Nat → Nat → Int) (n m k : Nat) : partL F n m k m = partL F n m (k + 1) 0 := rows_ext fun i _ => by
  by_cases h : i < k
  · rw [if_pos h, if_pos (by omega)]
  · rw [if_neg h]
    by_cases e : i = k
    · rw [if_pos e, if_pos (by omega), e]
    · rw [if_neg e, if_neg (by omega)]; split <;> rfl
theorem part_full (F : Nat → Nat → Int) (n m j : Nat) : partL F n m n j = rowsL (fun i => sumI (F i) m) n := rows_ext fun _ hi => if_pos hi
theorem sum_bd {f : Nat → Int} (h : ∀ i, 0 ≤ f i ∧ f i ≤ 1) (k : Nat) : 0 ≤ sumI f k ∧ sumI f k ≤ k := by
  induction k with
  | zero => simp [sumI]
  | succ k ih => have := h k; simp only [sumI]; omega

set_option maxHeartbeats 1000000 in
theorem sumsOf_any (fk : Nat) (hE : Go.Proofs.Enters Try.prog fk) (p : Value) (n m : Nat) (F : Nat → Nat → Int) (w : World) (hF : ∀ i j, 0 ≤ F i j ∧ F i j ≤ 1) (hn : n ≤ 6) (hm : m ≤ 6)
    (hc : ∀ wx, Below w.heap.size w wx → ∀ i j : Nat, i < n → j < m → Calls Try.prog fk #[.int .i64 i, .int .i64 j, p] wx fun e w' => e = .returned (.int .i64 (F i j)) ∧ wx = w') :
    Calls Try.prog 58 #[.int .i64 n, .int .i64 m, .func (.func fk) #[] #[p]] w (GivesL w (rowsL (fun i => sumI (F i) m) n)) := by
  obtain ⟨i0, hi, hz0, hz1, hz2⟩ := info_parts infoInt
  have hsb : Hid (∀ i j, 0 ≤ sumI (F i) j ∧ sumI (F i) j ≤ j) := fun i j => sum_bd (hF i) j
  have hF := Lib.hid hF
  have hc := Lib.hid hc
  go_enter Try.func58, Try.ntmps58
  go_wp2_with ((refine wpList_make_full w rfl _ _ 23 rfl w.heap.size 3 i0 (.int .i64 0) 1 Try.underlying23 hi hz0 hz1 .i64 .i64 n n n rfl rfl rfl rfl ?_ ?_ (Nat.le_refl _) ?_))
  all_goals first | (rw [hz2]; omega) | (unfold maxLen; omega) | skip
  intro w1 ho hg
  have ho0 : OwnI w1 w.heap.size (some ⟨w.heap.size, 0, none⟩) n n (partL F n m 0 0) := by
    rw [part_zero]; unfold OwnI; simpa [toList_madeCells_one, List.map_replicate] using ho
  have hb1 : Below w.heap.size w w1 := (Below.refl _ _).grown hg (Nat.le_refl _) (fun k hk => by cases hk)
  have ho0 := Lib.hid ho0
  have hb1 := Lib.hid hb1
  clear ho hg
  go_wp2_with fail
  generalize hgw : w.heap.size = g at *
  go_loopw [14] (fun i wr => ∃ k : Nat, k ≤ n ∧ i = .int .i64 k ∧ Hid (Below g w wr) ∧ Hid (OwnI wr g (some ⟨g, 0, none⟩) n n (partL F n m k 0))) (fun i _ => n - (intOf i).toNat)
  case atStart => exact ⟨0, Nat.zero_le _, rfl, hb1, ho0⟩
  case round =>
    obtain ⟨k, hk, rfl, hB, hO⟩ := hrel
    obtain ⟨wo, rfl⟩ : ∃ wo : World, wo = wr := ⟨_, rfl⟩
    clear hb1 ho0
    by_cases hlt : k < n
    · go_wp2_with fail
      go_loopw [18] (fun i wr => ∃ j : Nat, j ≤ m ∧ i = .int .i64 j ∧ Hid (Below g w wr) ∧ Hid (OwnI wr g (some ⟨g, 0, none⟩) n n (partL F n m k j))) (fun i _ => m - (intOf i).toNat)
      case atStart => exact ⟨0, Nat.zero_le _, rfl, hB, hO⟩
      case round =>
        obtain ⟨j, hj, rfl, hB2, hO2⟩ := hrel
        clear hB hO
        by_cases hlj : j < m
        · have hcj := hsb.out k j
          have hF1 := hF.out k j
          have hcell := own_cell (hO2.out.bel ((Below.refl _ _).drew)) hlt
          rw [part_get F hlt] at hcell
          have hfz := (hO2.out.bel ((Below.refl _ _).drew)).frozen k
          have hst := (hO2.out.bel ((Below.refl _ _).drew)).set k (sumI (F k) j + F k j)
          rw [show sumI (F k) j + F k j = sumI (F k) (j + 1) from rfl, part_set F hlt] at hst
          have hsn : sumI (F k) (j + 1) = sumI (F k) j + F k j := rfl
          rw [hsn] at hst
          have hBd := hB2.out.drew
          obtain ⟨W2, hW2⟩ : ∃ W2, wr.drew = W2 := ⟨_, rfl⟩
          rw [hW2] at hcell hfz hst hBd
          have hbs := hBd.setCell (show g ≤ (⟨g, k, none⟩ : Addr).block by simp) (.int .i64 (sumI (F k) j + F k j))
          have hcl := hc.out W2 hBd k j hlt hlj
          generalize sumI (F k) j = x at hcj hcell hst hbs
          generalize F k j = y at hF1 hst hbs hcl
          have hst := Lib.hid hst
          have hbs := Lib.hid hbs
          have hi64 : IntKind.i64.wrap (x + y) = x + y := IntWalk.i64_in _ ⟨by omega, by omega⟩
          clear hBd hO2 hB2
          go_wp2_with fail
          refine region_tail 9 (by kernel_rfl) (by kernel_rfl) W2 hW2 ?_
          simp only [List.take_succ_cons, List.take_zero, List.drop_succ_cons, List.drop_zero]
          clear hW2
          iterate 7 still_step
          refine wpStill_step (fun K hK => ?_)
          go_simp
          rw [hE]
          go_simp
          refine ⟨_, st hcl, hK _ ?_⟩
          clear hK K
          still_step
          refine wpStill_nil ?_
          go_wp2_with fail
          exact ⟨⟨j + 1, by omega, by go_num, hbs, hst⟩, by simp [intOf]; omega⟩
        · have : j = m := by omega
          subst this
          rw [part_next] at hO2
          go_wp2_with fail
          exact ⟨⟨k + 1, by omega, by go_num, hB2, hO2⟩, by simp [intOf]; omega⟩
    · have : k = n := by omega
      subst this
      rw [part_full] at hO
      subst hgw
      go_wp2_with fail
      go_ret
      exact ⟨⟨_, _, by rw [rows_len]; rfl, by rw [rows_len]; exact hO.out⟩, hB.out⟩

theorem sumsOf_eq (fk : Nat) (hE : Go.Proofs.Enters Try.prog fk) (p : Value) (n m : Nat) (F : Nat → Nat → Int) (L : List Int) (hL : rowsL (fun i => sumI (F i) m) n = L) (w : World) (hF : ∀ i j, 0 ≤ F i j ∧ F i j ≤ 1) (hn : n ≤ 6) (hm : m ≤ 6)
    (hc : ∀ wx, Below w.heap.size w wx → ∀ i j : Nat, i < n → j < m → Calls Try.prog fk #[.int .i64 i, .int .i64 j, p] wx fun e w' => e = .returned (.int .i64 (F i j)) ∧ wx = w') :
    Calls Try.prog 58 #[.int .i64 n, .int .i64 m, .func (.func fk) #[] #[p]] w (GivesL w L) := by
  subst hL; exact sumsOf_any fk hE p n m F w hF hn hm hc

theorem rowcell (B : Nat) (a : Option Addr) (len cap : Nat) (xs : List Int) (w : World) (x1 : w.cell? ⟨B, 1, none⟩ = some (.slice a len cap)) (h : Row w a len xs) (r c : Nat) (hr : r < len) (h6 : c ≤ 6) (hx : 0 ≤ xs.getD r 0 ∧ xs.getD r 0 ≤ 63) :
    Calls Try.prog 59 #[.int .i64 r, .int .i64 c, .pointer (some ⟨B, 0, none⟩)] w fun e w' => e = .returned (.int .i64 (bitI (xs.getD r 0) c)) ∧ w = w' := by
  obtain ⟨b, off, rfl, hck⟩ := row_at h hr
  generalize xs.getD r 0 = x at hck hx
  have E := shr_bit (j := c) hx.1 hx.2
  clear h
  go_enter Try.func59, Try.ntmps59
  go_wp2_with fail
  go_ret
  exact ⟨by rw [← E]; rfl, rfl⟩

theorem colcell (B : Nat) (a : Option Addr) (len cap : Nat) (xs : List Int) (w : World) (x1 : w.cell? ⟨B, 1, none⟩ = some (.slice a len cap)) (h : Row w a len xs) (r c : Nat) (hr : r < len) (h6 : c ≤ 6) (hx : 0 ≤ xs.getD r 0 ∧ xs.getD r 0 ≤ 63) :
    Calls Try.prog 60 #[.int .i64 c, .int .i64 r, .pointer (some ⟨B, 0, none⟩)] w fun e w' => e = .returned (.int .i64 (bitI (xs.getD r 0) c)) ∧ w = w' := by
  obtain ⟨b, off, rfl, hck⟩ := row_at h hr
  generalize xs.getD r 0 = x at hck hx
  have E := shr_bit (j := c) hx.1 hx.2
  clear h
  go_enter Try.func60, Try.ntmps60
  go_wp2_with fail
  go_ret
  exact ⟨by rw [← E]; rfl, rfl⟩

set_option maxHeartbeats 800000 in
theorem rsums_impl (W : Int) (a : Option Addr) (len cap : Nat) (xs : List Int) (w : World) (h : Row w a len xs) (hm : len ≤ 9223372036854775807) :
    Calls Try.prog 23 #[.agg #[.int .i64 W, .slice a len cap]] w (GivesL w (rsOut W xs)) := by
  have hl := h.1
  have H := h.alloc (.cells #[.int .i64 W, .slice a len cap] 29)
  have hb0 : Below w.heap.size w (w.alloc (.cells #[.int .i64 W, .slice a len cap] 29)) := (Below.refl _ _).alloc (Nat.le_refl _) _
  by_cases hv : validB W xs = true
  case neg =>
    rw [show rsOut W xs = [] from if_neg hv]
    have hv : validB W xs = false := by simpa using hv
    go_enter Try.func23, Try.ntmps23
    go_wp2_with fail
    refine (valid_impl _ _ _ _ xs _ H hm).mono ?_
    rintro e w1 ⟨rfl, hb⟩
    rw [hv]
    have bb := hb0.trans (hb.mono hb0.size)
    go_wp2_with fail
    go_ret
    exact ⟨⟨_, _, rfl, own_empty w1 w.heap.size w1.heap.size rfl bb.size⟩, bb.alloc bb.size _⟩
  rw [show rsOut W xs = rsL xs W.toNat len by rw [← hl]; exact if_pos hv]
  have hW := validB_W hv
  have hL := validB_len hv
  obtain ⟨W, rfl⟩ := Int.eq_ofNat_of_zero_le (by omega : 0 ≤ W)
  rw [Int.toNat_natCast]
  have hrow : Hid (∀ i, i < len → 0 ≤ xs.getD i 0 ∧ xs.getD i 0 ≤ pw W - 1 ∧ xs.getD i 0 ≤ 63) := fun i hi => validB_row hv (by omega)
  have x0 : (w.alloc (.cells #[.int .i64 W, .slice a len cap] 29)).cell? ⟨w.heap.size, 0, none⟩ = some (.int .i64 W) := by simp
  have x1 : (w.alloc (.cells #[.int .i64 W, .slice a len cap] 29)).cell? ⟨w.heap.size, 1, none⟩ = some (.slice a len cap) := by simp
  go_enter Try.func23, Try.ntmps23
  go_wp2_with fail
  refine (valid_impl _ _ _ _ xs _ H hm).mono ?_
  rintro e w1 ⟨rfl, hb⟩
  rw [hv]
  have bb := hb0.trans (hb.mono hb0.size)
  have x0 := kept hb (by simp) x0
  have x1 := kept hb (by simp) x1
  have hsz : w.heap.size < w1.heap.size := block_lt x0
  have H1 := Lib.hid (H.bel hb)
  have bb := Lib.hid bb
  clear hb hb0 H h
  go_wp2_with fail
  refine (sumsOf_eq 59 (enters_of Try.func59 (by kernel_rfl) rfl) (.pointer (some ⟨w.heap.size, 0, none⟩)) len W (fun i j => bitI (xs.getD i 0) j) (rsL xs W len) (rows_ext fun i _ => (cnt_sum _ _).symm) _ (fun i j => bit_01 _ _) (by omega) (by omega) fun wx hx i j hi hj => rowcell w.heap.size a len cap xs wx (kept hx (show w.heap.size < _ by simpa using hsz) (by simpa using x1)) ((by simpa using H1.out : Row _ a len xs).bel hx) i j hi (by omega) (And.intro (hrow.out _ (by assumption)).1 (hrow.out _ (by assumption)).2.2)).mono ?_
  rintro e w2 ⟨⟨a2, c2, rfl, ho⟩, hb2⟩
  have hw := Lib.hid (And.intro ho hb2)
  clear ho hb2
  go_wp2_with fail
  go_ret
  have hw := hw.out
  refine ⟨⟨a2, c2, rfl, ?_⟩, bb.out.trans (hw.2.mono (by have := bb.out.size; simpa using this))⟩
  exact hw.1.mono (by have := bb.out.size; simpa using this)

set_option maxHeartbeats 800000 in
theorem csums_impl (W : Int) (a : Option Addr) (len cap : Nat) (xs : List Int) (w : World) (h : Row w a len xs) (hm : len ≤ 9223372036854775807) :
    Calls Try.prog 24 #[.agg #[.int .i64 W, .slice a len cap]] w (GivesL w (csOut W xs)) := by
  have hl := h.1
  have H := h.alloc (.cells #[.int .i64 W, .slice a len cap] 29)
  have hb0 : Below w.heap.size w (w.alloc (.cells #[.int .i64 W, .slice a len cap] 29)) := (Below.refl _ _).alloc (Nat.le_refl _) _
  by_cases hv : validB W xs = true
  case neg =>
    rw [show csOut W xs = [] from if_neg hv]
    have hv : validB W xs = false := by simpa using hv
    go_enter Try.func24, Try.ntmps24
    go_wp2_with fail
    refine (valid_impl _ _ _ _ xs _ H hm).mono ?_
    rintro e w1 ⟨rfl, hb⟩
    rw [hv]
    have bb := hb0.trans (hb.mono hb0.size)
    go_wp2_with fail
    go_ret
    exact ⟨⟨_, _, rfl, own_empty w1 w.heap.size w1.heap.size rfl bb.size⟩, bb.alloc bb.size _⟩
  rw [show csOut W xs = csL xs len W.toNat by rw [← hl]; exact if_pos hv]
  have hW := validB_W hv
  have hL := validB_len hv
  obtain ⟨W, rfl⟩ := Int.eq_ofNat_of_zero_le (by omega : 0 ≤ W)
  rw [Int.toNat_natCast]
  have hrow : Hid (∀ i, i < len → 0 ≤ xs.getD i 0 ∧ xs.getD i 0 ≤ pw W - 1 ∧ xs.getD i 0 ≤ 63) := fun i hi => validB_row hv (by omega)
  have x0 : (w.alloc (.cells #[.int .i64 W, .slice a len cap] 29)).cell? ⟨w.heap.size, 0, none⟩ = some (.int .i64 W) := by simp
  have x1 : (w.alloc (.cells #[.int .i64 W, .slice a len cap] 29)).cell? ⟨w.heap.size, 1, none⟩ = some (.slice a len cap) := by simp
  go_enter Try.func24, Try.ntmps24
  go_wp2_with fail
  refine (valid_impl _ _ _ _ xs _ H hm).mono ?_
  rintro e w1 ⟨rfl, hb⟩
  rw [hv]
  have bb := hb0.trans (hb.mono hb0.size)
  have x0 := kept hb (by simp) x0
  have x1 := kept hb (by simp) x1
  have hsz : w.heap.size < w1.heap.size := block_lt x0
  have H1 := Lib.hid (H.bel hb)
  have bb := Lib.hid bb
  clear hb hb0 H h
  go_wp2_with fail
  refine (sumsOf_eq 60 (enters_of Try.func60 (by kernel_rfl) rfl) (.pointer (some ⟨w.heap.size, 0, none⟩)) W len (fun i j => bitI (xs.getD j 0) i) (csL xs len W) rfl _ (fun i j => bit_01 _ _) (by omega) (by omega) fun wx hx i j hi hj => colcell w.heap.size a len cap xs wx (kept hx (show w.heap.size < _ by simpa using hsz) (by simpa using x1)) ((by simpa using H1.out : Row _ a len xs).bel hx) j i hj (by omega) (And.intro (hrow.out _ (by assumption)).1 (hrow.out _ (by assumption)).2.2)).mono ?_
  rintro e w2 ⟨⟨a2, c2, rfl, ho⟩, hb2⟩
  have hw := Lib.hid (And.intro ho hb2)
  clear ho hb2
  go_wp2_with fail
  go_ret
  have hw := hw.out
  refine ⟨⟨a2, c2, rfl, ?_⟩, bb.out.trans (hw.2.mono (by have := bb.out.size; simpa using this))⟩
  exact hw.1.mono (by have := bb.out.size; simpa using this)
end Go.Proofs.Yteadibgjieimkaa

