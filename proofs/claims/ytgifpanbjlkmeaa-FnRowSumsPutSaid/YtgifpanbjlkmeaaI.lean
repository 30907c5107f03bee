/-
  The contracts of the functions that give an image: turned, mirrored, with the other cells set, with a cell put.
-/
import Derived.Test.YtgifpanbjlkmeaaH
import Derived.Deep.OwnRows
import Derived.Deep.DeepCutAuto
namespace Go.Proofs.Ytgifpanbjlkmeaa
open Go.RowKit

/-- What a function that gives an image, or none, leaves. -/
structure Out where
  ok : Bool
  W : Int
  xs : List Int
def Out.no : Out := ⟨false, 0, []⟩
def Gives (w : World) (r : Out) (e : Ending) (w' : World) : Prop :=
  (∃ a cap, e = .returned (.tuple #[.agg #[.int .i64 r.W, .slice a r.xs.length cap], .bool r.ok]) ∧ OwnI w' w.heap.size a r.xs.length cap r.xs) ∧ Below w.heap.size w w'

theorem own_nil (w : World) (B : Nat) : OwnI w B none 0 0 [] := World.ownsRow_nil w B _ _

/-- The bits of a column, as a row. -/
def colI (xs : List Int) (j : Nat) : Nat → Int
  | 0 => 0
  | i + 1 => colI xs j i + bitI (xs.getD i 0) j * pw i
theorem col_bd (xs : List Int) (j i : Nat) : 0 ≤ colI xs j i ∧ colI xs j i ≤ pw i - 1 := by
  induction i with
  | zero => simp [colI, pw]
  | succ i ih =>
    have := bit_01 (xs.getD i 0) j
    have hp := pw_pos i
    simp only [colI, pw_succ]
    rcases (show bitI (xs.getD i 0) j = 0 ∨ bitI (xs.getD i 0) j = 1 by omega) with e | e <;> rw [e] <;> omega
def colsL (xs : List Int) (W i j : Nat) : List Int := (List.range W).map fun j' => if j' < j then colI xs j' (i + 1) else colI xs j' i
def turnL (xs : List Int) (W k : Nat) : List Int := (List.range W).map fun j => colI xs j k
theorem cols_zero (xs : List Int) (W i : Nat) : colsL xs W i 0 = turnL xs W i := by simp [colsL, turnL]
theorem cols_full (xs : List Int) (W i : Nat) : colsL xs W i W = turnL xs W (i + 1) := by
  unfold colsL turnL; apply List.map_congr_left; intro j hj; rw [if_pos (List.mem_range.1 hj)]
theorem cols_len (xs : List Int) (W i j : Nat) : (colsL xs W i j).length = W := by simp [colsL]
theorem turn_len (xs : List Int) (W k : Nat) : (turnL xs W k).length = W := by simp [turnL]
theorem cols_get (xs : List Int) {W i j : Nat} (hj : j < W) : (colsL xs W i j).getD j 0 = colI xs j i := by
  rw [getD_elem (by rw [cols_len]; exact hj)]; simp [colsL]
theorem cols_set (xs : List Int) {W i j : Nat} (hj : j < W) : (colsL xs W i j).set j (colI xs j (i + 1)) = colsL xs W i (j + 1) := by
  apply List.ext_getElem?
  intro k
  by_cases e : k = j
  · subst e; rw [List.getElem?_set_self (by rw [cols_len]; exact hj)]; simp [colsL, hj]
  · rw [List.getElem?_set_ne (by omega)]
    by_cases hk : k < W
    · simp only [colsL, List.getElem?_map, List.getElem?_range hk, Option.map_some]
      by_cases h : k < j
      · rw [if_pos h, if_pos (by omega)]
      · rw [if_neg h, if_neg (by omega)]
    · rw [List.getElem?_eq_none (by rw [cols_len]; omega), List.getElem?_eq_none (by rw [cols_len]; omega)]
theorem turn_zero (xs : List Int) (W : Nat) : turnL xs W 0 = List.replicate W 0 := by
  unfold turnL
  apply List.ext_getElem?
  intro k
  by_cases hk : k < W
  · simp [colI, hk]
  · rw [List.getElem?_eq_none (by simp; omega), List.getElem?_eq_none (by simp; omega)]

theorem or_nat : ∀ i, i < 6 → ∀ c, c < 64 → ((c : Nat) : Int) ≤ pw i - 1 → bits BinOp.or IntKind.i64 c 0 = c ∧ bits BinOp.or IntKind.i64 c (pw i) = c + pw i := by decide +kernel
theorem or_bit {c b : Int} {i : Nat} (hi : i < 6) (hc : 0 ≤ c ∧ c ≤ pw i - 1) (hb : 0 ≤ b ∧ b ≤ 1) : bits BinOp.or IntKind.i64 c (b * pw i) = c + b * pw i := by
  have hp : pw i ≤ 64 := by have := pw_le i 6 (by omega); have e : pw 6 = 64 := by decide
                            omega
  obtain ⟨n, rfl⟩ := Int.eq_ofNat_of_zero_le hc.1
  have := or_nat i hi n (by omega) hc.2
  rcases (show b = 0 ∨ b = 1 by omega) with e | e <;> rw [e]
  · rw [Int.zero_mul, Int.add_zero]; exact this.1
  · rw [Int.one_mul]; exact this.2

theorem Row.grown {W0 wr : World} {g : Nat} {a : Option Addr} {len : Nat} {xs : List Int} (h : Row W0 a len xs) (hg : W0.grownBy wr (some g)) (hn : len = 0 ∨ ∃ b off, a = some ⟨b, off, none⟩ ∧ b ≠ g) : Row wr a len xs := by
  obtain ⟨h1, h2⟩ := h
  refine ⟨h1, ?_⟩
  rcases h2 with h2 | ⟨b, off, rfl, hc⟩
  · exact .inl h2
  · rcases hn with hn | ⟨b', off', e, hne⟩
    · exact .inl hn
    · right
      simp only [Option.some.injEq, Addr.mk.injEq, and_true] at e
      obtain ⟨rfl, rfl⟩ := e
      exact ⟨b, off, rfl, fun i hi => hg.cell (hc i hi) (by simpa using hne)⟩

theorem own_cell {w : World} {B g len cap : Nat} {xs : List Int} (h : OwnI w B (some ⟨g, 0, none⟩) len cap xs) {i : Nat} (hi : i < len) : w.cell? ⟨g, i, none⟩ = some (.int .i64 (xs.getD i 0)) := by
  have hl := h.len
  rw [World.ownsRow.cellAt h i (by omega), List.getElem?_map, List.getElem?_eq_getElem (by omega), getD_elem (by omega)]; rfl

theorem grown_below {W0 wr : World} {g : Nat} (h : W0.grownBy wr (some g)) : Below (min g W0.heap.size) W0 wr :=
  ⟨h.os, h.tape, h.output, h.size, fun k hk => h.block k (by omega) (by simp; omega)⟩
/-- What stands when a function that gives an image has made its new image: its own argument's box, the result's box, the new image's box, the new row. -/
structure Made (w W0 : World) (g k2 : Nat) (WA : Int) (a : Option Addr) (len cap : Nat) (xs : List Int) (Wb : Int) (n : Nat) : Prop where
  x0 : W0.cell? ⟨w.heap.size, 0, none⟩ = some (.int .i64 WA)
  x1 : W0.cell? ⟨w.heap.size, 1, none⟩ = some (.slice a len cap)
  y0 : W0.cell? ⟨w.heap.size + 1, 0, none⟩ = some (.int .i64 0)
  y1 : W0.cell? ⟨w.heap.size + 1, 1, none⟩ = some (.slice none 0 0)
  yf : ∀ o, W0.frozen? ⟨w.heap.size + 1, o, none⟩ = false
  b0 : W0.cell? ⟨k2, 0, none⟩ = some (.int .i64 Wb)
  b1 : W0.cell? ⟨k2, 1, none⟩ = some (.slice (some ⟨g, 0, none⟩) n n)
  row : Row W0 a len xs
  own : OwnI W0 (w.heap.size + 2) (some ⟨g, 0, none⟩) n n (List.replicate n 0)
  bel : Below w.heap.size w W0
  ne : k2 ≠ g
  far : ∀ b off, a = some ⟨b, off, none⟩ → 0 < len → b ≠ g
  hg : w.heap.size + 2 ≤ g
  hk : w.heap.size + 2 ≤ k2
  old : ∀ k, W0.heap.size ≤ k → g < k

theorem made_own (w : World) (B n : Nat) (hB : B ≤ w.heap.size) (hn : n ≤ 1048576) : OwnI (w.alloc (.cells (madeCells #[.int .i64 0] n) 3)) B (some ⟨w.heap.size, 0, none⟩) n n (List.replicate n 0) := by
  have := World.ownsRow_lit (base := B) (e := 3) (size := 1) w (madeCells #[.int .i64 0] n) n hB (by unfold maxLen; omega) (by simp [madeCells])
  unfold OwnI; simpa [toList_madeCells_one, List.map_replicate] using this
theorem row_far {w1 : World} {a : Option Addr} {len : Nat} {xs : List Int} (h : Row w1 a len xs) {k : Nat} (hk : w1.heap.size ≤ k) : ∀ b off, a = some ⟨b, off, none⟩ → 0 < len → b ≠ k := by
  intro b off e hl
  obtain ⟨b', off', e', hc⟩ := row_at h hl
  rw [e] at e'
  simp only [Option.some.injEq, Addr.mk.injEq, and_true] at e'
  obtain ⟨rfl, rfl⟩ := e'
  have := block_lt hc
  simp at this; omega

theorem made1 {w w1 : World} {WA Wb : Int} {a : Option Addr} {len cap n : Nat} {xs : List Int} (hz : w.heap.size + 1 < w1.heap.size) (bb : Below w.heap.size w w1)
    (x0 : w1.cell? ⟨w.heap.size, 0, none⟩ = some (.int .i64 WA)) (x1 : w1.cell? ⟨w.heap.size, 1, none⟩ = some (.slice a len cap)) (y0 : w1.cell? ⟨w.heap.size + 1, 0, none⟩ = some (.int .i64 0)) (y1 : w1.cell? ⟨w.heap.size + 1, 1, none⟩ = some (.slice none 0 0)) (yf : ∀ o, w1.frozen? ⟨w.heap.size + 1, o, none⟩ = false) (h : Row w1 a len xs) (hn : n ≤ 1048576) :
    Made w ((w1.alloc (.cells (madeCells #[.int .i64 0] n) 3)).alloc (.cells #[.int .i64 Wb, .slice (some ⟨w1.heap.size, 0, none⟩) n n] 25)).drew w1.heap.size (w1.heap.size + 1) WA a len cap xs Wb n := by
  have hB : Below w1.heap.size w1 ((w1.alloc (.cells (madeCells #[.int .i64 0] n) 3)).alloc (.cells #[.int .i64 Wb, .slice (some ⟨w1.heap.size, 0, none⟩) n n] 25)).drew := (((Below.refl _ _).alloc (Nat.le_refl _) _).alloc (by simp) _).drew
  exact ⟨kept hB (show _ < _ by simp; omega) x0, kept hB (show _ < _ by simp; omega) x1, kept hB (by simpa using hz) y0, kept hB (by simpa using hz) y1, fun o => (hB.frozen (by simpa using hz)).trans (yf o), by go_simp, by go_simp, h.bel hB,
    ((made_own w1 _ n (by omega) hn).bel (((Below.refl _ _).alloc (Nat.le_refl _) _).drew)), bb.trans (hB.mono (by omega)), by omega, row_far h (Nat.le_refl _), by omega, by omega, fun k hk => by simp at hk; omega⟩
theorem made2 {w w1 : World} {WA Wb : Int} {a : Option Addr} {len cap n : Nat} {xs : List Int} (hz : w.heap.size + 1 < w1.heap.size) (bb : Below w.heap.size w w1)
    (x0 : w1.cell? ⟨w.heap.size, 0, none⟩ = some (.int .i64 WA)) (x1 : w1.cell? ⟨w.heap.size, 1, none⟩ = some (.slice a len cap)) (y0 : w1.cell? ⟨w.heap.size + 1, 0, none⟩ = some (.int .i64 0)) (y1 : w1.cell? ⟨w.heap.size + 1, 1, none⟩ = some (.slice none 0 0)) (yf : ∀ o, w1.frozen? ⟨w.heap.size + 1, o, none⟩ = false) (h : Row w1 a len xs) (hn : n ≤ 1048576) :
    Made w ((w1.alloc (.cells #[.int .i64 Wb, .slice (some ⟨w1.heap.size + 1, 0, none⟩) n n] 25)).alloc (.cells (madeCells #[.int .i64 0] n) 3)).drew (w1.heap.size + 1) w1.heap.size WA a len cap xs Wb n := by
  have hB : Below w1.heap.size w1 ((w1.alloc (.cells #[.int .i64 Wb, .slice (some ⟨w1.heap.size + 1, 0, none⟩) n n] 25)).alloc (.cells (madeCells #[.int .i64 0] n) 3)).drew := (((Below.refl _ _).alloc (Nat.le_refl _) _).alloc (by simp) _).drew
  have ho := made_own (w1.alloc (.cells #[.int .i64 Wb, .slice (some ⟨w1.heap.size + 1, 0, none⟩) n n] 25)) (w.heap.size + 2) n (by simp; omega) hn
  exact ⟨kept hB (show _ < _ by simp; omega) x0, kept hB (show _ < _ by simp; omega) x1, kept hB (by simpa using hz) y0, kept hB (by simpa using hz) y1, fun o => (hB.frozen (by simpa using hz)).trans (yf o), by go_simp, by go_simp, h.bel hB,
    (by simpa using ho.bel ((Below.refl _ _).drew)), bb.trans (hB.mono (by omega)), by omega, row_far h (by omega), by omega, by omega, fun k hk => by simp at hk; omega⟩

set_option maxHeartbeats 1000000 in
theorem turn_impl (W : Int) (a : Option Addr) (len cap : Nat) (xs : List Int) (w : World) (h : Row w a len xs) (hm : len ≤ 9223372036854775807) :
    Calls Try.prog 24 #[.agg #[.int .i64 W, .slice a len cap]] w (Gives w (if validB W xs = true then ⟨true, len, turnL xs W.toNat len⟩ else .no)) := by
  have hl := h.1
  have H := (h.alloc (.cells #[.int .i64 W, .slice a len cap] 25)).alloc (.cells #[.int .i64 0, .slice none 0 0] 25)
  by_cases hv : validB W xs = true
  case neg =>
    rw [if_neg hv]
    have hv : validB W xs = false := by simpa using hv
    go_enter Try.func24, Try.ntmps24
    go_wp2_with fail
    refine (valid_impl _ _ _ _ xs _ H hm).mono ?_
    rintro e w1 ⟨rfl, hb⟩
    obtain ⟨hc1, hf1⟩ := bcell hb
    have bb1 : Below w.heap.size w w1 := (((Below.refl _ _).alloc (Nat.le_refl _) _).alloc (by simp) _).trans (hb.mono (by simp; omega))
    go_wp2_with fail
    refine bodyPost_ret (v := .tuple #[.agg #[.int .i64 0, .slice none 0 0], .bool false]) (by simp [results, Try.results24, go_sem, hc1]) rfl ?_
    exact ⟨⟨none, 0, rfl, own_nil _ _⟩, (bb1.setCell (by simp) _).setCell (by simp) _⟩
  rw [if_pos hv]
  have hW := validB_W hv
  have hL := validB_len hv
  obtain ⟨W, rfl⟩ := Int.eq_ofNat_of_zero_le (by omega : 0 ≤ W)
  rw [Int.toNat_natCast]
  have hrow : Hid (∀ i, i < len → 0 ≤ xs.getD i 0 ∧ xs.getD i 0 ≤ pw W - 1 ∧ xs.getD i 0 ≤ 63) := fun i hi => validB_row hv (by omega)
  go_enter Try.func24, Try.ntmps24
  go_wp2_with fail
  refine (valid_impl _ _ _ _ xs _ H hm).mono ?_
  rintro e w1 ⟨rfl, hb⟩
  have bb1 : Below w.heap.size w w1 := (((Below.refl _ _).alloc (Nat.le_refl _) _).alloc (by simp) _).trans (hb.mono (by simp; omega))
  have hz : w.heap.size + 1 < w1.heap.size := by have := hb.size; simp at this; omega
  have H1 := H.bel hb
  have x0 : w1.cell? ⟨w.heap.size, 0, none⟩ = some (.int .i64 W) := by rw [(bcell hb).1 _ _ (by simp; omega)]; go_simp
  have x1 : w1.cell? ⟨w.heap.size, 1, none⟩ = some (.slice a len cap) := by rw [(bcell hb).1 _ _ (by simp; omega)]; go_simp
  have y0 : w1.cell? ⟨w.heap.size + 1, 0, none⟩ = some (.int .i64 0) := by rw [(bcell hb).1 _ _ (by simp)]; go_simp
  have y1 : w1.cell? ⟨w.heap.size + 1, 1, none⟩ = some (.slice none 0 0) := by rw [(bcell hb).1 _ _ (by simp)]; go_simp
  have yf : ∀ o, w1.frozen? ⟨w.heap.size + 1, o, none⟩ = false := fun o => by rw [(bcell hb).2 _ _ (by simp)]; go_simp
  clear hb H h
  go_wp2_with fail
  have hmk := fun wx => run_make_row' (P := Try.prog) 23 3 (.int .i64 0) 8 Try.underlying23 infoInt rfl .i64 .i64 W (by omega) (by omega) wx
  go_region_held3 (fun W' => W'.cell? ⟨w.heap.size, 0, none⟩ = some (.int .i64 W) ∧ W'.cell? ⟨w.heap.size, 1, none⟩ = some (.slice a len cap))
    (first | go_keep) (fail)
  · go_wp2_with fail
    have M := made1 (n := W) (Wb := len) hz bb1 x0 x1 y0 y1 yf H1 (by omega)
    clear x0 x1 y0 y1 yf H1 hmk bb1 hz
    generalize ((w1.alloc (.cells (madeCells #[.int .i64 0] W) 3)).alloc (.cells #[.int .i64 len, .slice (some ⟨w1.heap.size, 0, none⟩) W W] 25)).drew = W0 at M ⊢
    generalize w1.heap.size + 1 = k2 at M ⊢
    generalize w1.heap.size = g at M ⊢
    go_loopw [22] (fun q wr => ∃ k : Nat, k ≤ len ∧ q = .int .i64 k ∧ W0.grownBy wr (some g) ∧ OwnI wr (w.heap.size + 2) (some ⟨g, 0, none⟩) W W (turnL xs W k)) (fun q _ => len - (intOf q).toNat)
    case atStart => exact ⟨0, Nat.zero_le _, rfl, World.grownBy.refl _ _, by rw [turn_zero]; exact M.own⟩
    case round =>
      obtain ⟨k, hk, rfl, hgr, hown⟩ := hrel
      have hown := Lib.hid hown
      obtain ⟨wo, rfl⟩ : ∃ wo : World, wo = wr := ⟨_, rfl⟩
      by_cases hlt : k < len
      · obtain ⟨b, off, rfl, hck⟩ := row_at M.row hlt
        have hbg := M.far b off rfl (by omega)
        have hck := hgr.cell hck (by simpa using hbg)
        have hr := hrow.out k hlt
        have z1 := hgr.cell M.b1 (by simpa using M.ne)
        generalize hx : xs.getD k 0 = x at hck hr
        have hx := Lib.hid hx
        go_wp2_with fail
        go_loopw [30] (fun q wr => ∃ j : Nat, j ≤ W ∧ q = .int .i64 j ∧ W0.grownBy wr (some g) ∧ OwnI wr (w.heap.size + 2) (some ⟨g, 0, none⟩) W W (colsL xs W k j)) (fun q _ => W - (intOf q).toNat)
        case atStart => exact ⟨0, Nat.zero_le _, rfl, hgr, by rw [cols_zero]; exact hown.out⟩
        case round =>
          obtain ⟨j, hj, rfl, hgr2, hown2⟩ := hrel
          by_cases hlj : j < W
          · have hcb := col_bd xs j k
            have hc := own_cell hown2 hlj
            rw [cols_get xs hlj] at hc
            have hpk : pw k ≤ 64 := by have := pw_le k 6 (by omega); have e : pw 6 = 64 := by decide
                                       omega
            have hbi := bit_01 x j
            have eor := or_bit (c := colI xs j k) (b := bitI x j) (i := k) (by omega) hcb hbi
            have eand := shr_bit (j := j) hr.1 hr.2.2
            have hs := hown2.bel ((Below.refl _ _).drew)
            have hs := hs.set j (colI xs j k + bitI x j * pw k)
            rw [show colI xs j k + bitI x j * pw k = colI xs j (k + 1) by simp only [colI]; rw [hx.out], cols_set xs hlj] at hs
            obtain ⟨W2, hW2⟩ : ∃ W2, wr.drew = W2 := ⟨_, rfl⟩
            have q1 : W2.cell? ⟨k2, 1, none⟩ = some (.slice (some ⟨g, 0, none⟩) W W) := by rw [← hW2]; exact hgr2.cell M.b1 (by simpa using M.ne)
            have q2 : W2.cell? ⟨g, j, none⟩ = some (.int .i64 (colI xs j k)) := by rw [← hW2]; exact hc
            have q3 : W2.frozen? ⟨g, j, none⟩ = false := by rw [← hW2]; exact hown2.frozen j
            have hgr3 : W0.grownBy W2 (some g) := by rw [← hW2]; exact ⟨hgr2.os, hgr2.tape, hgr2.output, hgr2.size, hgr2.block⟩
            have hgr4 := grown_set (j := j) (v := .int .i64 (colI xs j (k + 1))) hgr3
            rw [hW2] at hs
            go_wp2_with fail
            refine region_tail 13 (by kernel_rfl) (by kernel_rfl) W2 hW2 ?_
            simp only [List.take_succ_cons, List.take_zero, List.drop_succ_cons, List.drop_zero]
            have E : bits BinOp.or IntKind.i64 (colI xs j k) (wrap64 (bitI x j * 2 ^ k)) = colI xs j (k + 1) := by
              rw [← pw_pow, IntWalk.wrap64_in _ (by rcases (show bitI x j = 0 ∨ bitI x j = 1 by omega) with e | e <;> rw [e] <;> omega), eor]
              simp only [colI]; rw [hx.out]
            have hs := Lib.hid hs
            have hgr4 := Lib.hid hgr4
            clear hW2 hc hgr3 hck z1 hown2 hgr2 eor
            repeat still_step
            refine wpStill_nil ?_
            go_wp2_with fail
            exact ⟨⟨j + 1, by omega, by go_num, hgr4.out, hs.out⟩, by simp [intOf]; omega⟩
          · have : j = W := by omega
            subst this
            have hown2 := Lib.hid hown2
            have hgr2 := Lib.hid hgr2
            clear hck z1 hgr
            go_wp2_with fail
            exact ⟨⟨k + 1, by omega, by go_num, hgr2.out, by rw [← cols_full]; exact hown2.out⟩, by simp [intOf]; omega⟩
      · have : k = len := by omega
        subst this
        have z0 := hgr.cell M.b0 (by simpa using M.ne)
        have z1 := hgr.cell M.b1 (by simpa using M.ne)
        have u0 := hgr.cell M.y0 (by have := M.hg; simp; omega)
        have u1 := hgr.cell M.y1 (by have := M.hg; simp; omega)
        have uf : ∀ o, wo.frozen? ⟨w.heap.size + 1, o, none⟩ = false := fun o => (World.frozen?_of_block (a := ⟨w.heap.size + 1, o, none⟩) (hgr.block (w.heap.size + 1) (show w.heap.size + 1 < W0.heap.size from block_lt M.y0) (by have := M.hg; simp; omega))).trans (M.yf o)
        have bb : Below w.heap.size w wo := M.bel.trans ((grown_below hgr).mono (by have := M.hg; have := M.bel.size; omega))
        have hgr := Lib.hid hgr
        go_wp2_with fail
        refine bodyPost_ret (v := .tuple #[.agg #[.int .i64 k, .slice (some ⟨g, 0, none⟩) W W], .bool true]) (by simp [results, Try.results24, go_sem, u0, u1]) rfl ?_
        refine ⟨⟨some ⟨g, 0, none⟩, W, by rw [turn_len], ?_⟩, (bb.setCell (by simp) _).setCell (by simp) _⟩
        show OwnI _ _ _ (turnL xs W k).length _ _
        rw [turn_len]
        exact ((hown.out.store (by simp) _).store (by simp) _).mono (by omega)
  · go_wp2_with fail
    have M := made2 (n := W) (Wb := len) hz bb1 x0 x1 y0 y1 yf H1 (by omega)
    clear x0 x1 y0 y1 yf H1 hmk bb1 hz
    generalize ((w1.alloc (.cells #[.int .i64 len, .slice (some ⟨w1.heap.size + 1, 0, none⟩) W W] 25)).alloc (.cells (madeCells #[.int .i64 0] W) 3)).drew = W0 at M ⊢
    generalize w1.heap.size + 1 = g at M ⊢
    generalize w1.heap.size = k2 at M ⊢
    go_loopw [22] (fun q wr => ∃ k : Nat, k ≤ len ∧ q = .int .i64 k ∧ W0.grownBy wr (some g) ∧ OwnI wr (w.heap.size + 2) (some ⟨g, 0, none⟩) W W (turnL xs W k)) (fun q _ => len - (intOf q).toNat)
    case atStart => exact ⟨0, Nat.zero_le _, rfl, World.grownBy.refl _ _, by rw [turn_zero]; exact M.own⟩
    case round =>
      obtain ⟨k, hk, rfl, hgr, hown⟩ := hrel
      have hown := Lib.hid hown
      obtain ⟨wo, rfl⟩ : ∃ wo : World, wo = wr := ⟨_, rfl⟩
      by_cases hlt : k < len
      · obtain ⟨b, off, rfl, hck⟩ := row_at M.row hlt
        have hbg := M.far b off rfl (by omega)
        have hck := hgr.cell hck (by simpa using hbg)
        have hr := hrow.out k hlt
        have z1 := hgr.cell M.b1 (by simpa using M.ne)
        generalize hx : xs.getD k 0 = x at hck hr
        have hx := Lib.hid hx
        go_wp2_with fail
        go_loopw [30] (fun q wr => ∃ j : Nat, j ≤ W ∧ q = .int .i64 j ∧ W0.grownBy wr (some g) ∧ OwnI wr (w.heap.size + 2) (some ⟨g, 0, none⟩) W W (colsL xs W k j)) (fun q _ => W - (intOf q).toNat)
        case atStart => exact ⟨0, Nat.zero_le _, rfl, hgr, by rw [cols_zero]; exact hown.out⟩
        case round =>
          obtain ⟨j, hj, rfl, hgr2, hown2⟩ := hrel
          by_cases hlj : j < W
          · have hcb := col_bd xs j k
            have hc := own_cell hown2 hlj
            rw [cols_get xs hlj] at hc
            have hpk : pw k ≤ 64 := by have := pw_le k 6 (by omega); have e : pw 6 = 64 := by decide
                                       omega
            have hbi := bit_01 x j
            have eor := or_bit (c := colI xs j k) (b := bitI x j) (i := k) (by omega) hcb hbi
            have eand := shr_bit (j := j) hr.1 hr.2.2
            have hs := hown2.bel ((Below.refl _ _).drew)
            have hs := hs.set j (colI xs j k + bitI x j * pw k)
            rw [show colI xs j k + bitI x j * pw k = colI xs j (k + 1) by simp only [colI]; rw [hx.out], cols_set xs hlj] at hs
            obtain ⟨W2, hW2⟩ : ∃ W2, wr.drew = W2 := ⟨_, rfl⟩
            have q1 : W2.cell? ⟨k2, 1, none⟩ = some (.slice (some ⟨g, 0, none⟩) W W) := by rw [← hW2]; exact hgr2.cell M.b1 (by simpa using M.ne)
            have q2 : W2.cell? ⟨g, j, none⟩ = some (.int .i64 (colI xs j k)) := by rw [← hW2]; exact hc
            have q3 : W2.frozen? ⟨g, j, none⟩ = false := by rw [← hW2]; exact hown2.frozen j
            have hgr3 : W0.grownBy W2 (some g) := by rw [← hW2]; exact ⟨hgr2.os, hgr2.tape, hgr2.output, hgr2.size, hgr2.block⟩
            have hgr4 := grown_set (j := j) (v := .int .i64 (colI xs j (k + 1))) hgr3
            rw [hW2] at hs
            go_wp2_with fail
            refine region_tail 13 (by kernel_rfl) (by kernel_rfl) W2 hW2 ?_
            simp only [List.take_succ_cons, List.take_zero, List.drop_succ_cons, List.drop_zero]
            have E : bits BinOp.or IntKind.i64 (colI xs j k) (wrap64 (bitI x j * 2 ^ k)) = colI xs j (k + 1) := by
              rw [← pw_pow, IntWalk.wrap64_in _ (by rcases (show bitI x j = 0 ∨ bitI x j = 1 by omega) with e | e <;> rw [e] <;> omega), eor]
              simp only [colI]; rw [hx.out]
            have hs := Lib.hid hs
            have hgr4 := Lib.hid hgr4
            clear hW2 hc hgr3 hck z1 hown2 hgr2 eor
            repeat still_step
            refine wpStill_nil ?_
            go_wp2_with fail
            exact ⟨⟨j + 1, by omega, by go_num, hgr4.out, hs.out⟩, by simp [intOf]; omega⟩
          · have : j = W := by omega
            subst this
            have hown2 := Lib.hid hown2
            have hgr2 := Lib.hid hgr2
            clear hck z1 hgr
            go_wp2_with fail
            exact ⟨⟨k + 1, by omega, by go_num, hgr2.out, by rw [← cols_full]; exact hown2.out⟩, by simp [intOf]; omega⟩
      · have : k = len := by omega
        subst this
        have z0 := hgr.cell M.b0 (by simpa using M.ne)
        have z1 := hgr.cell M.b1 (by simpa using M.ne)
        have u0 := hgr.cell M.y0 (by have := M.hg; simp; omega)
        have u1 := hgr.cell M.y1 (by have := M.hg; simp; omega)
        have uf : ∀ o, wo.frozen? ⟨w.heap.size + 1, o, none⟩ = false := fun o => (World.frozen?_of_block (a := ⟨w.heap.size + 1, o, none⟩) (hgr.block (w.heap.size + 1) (show w.heap.size + 1 < W0.heap.size from block_lt M.y0) (by have := M.hg; simp; omega))).trans (M.yf o)
        have bb : Below w.heap.size w wo := M.bel.trans ((grown_below hgr).mono (by have := M.hg; have := M.bel.size; omega))
        have hgr := Lib.hid hgr
        go_wp2_with fail
        refine bodyPost_ret (v := .tuple #[.agg #[.int .i64 k, .slice (some ⟨g, 0, none⟩) W W], .bool true]) (by simp [results, Try.results24, go_sem, u0, u1]) rfl ?_
        refine ⟨⟨some ⟨g, 0, none⟩, W, by rw [turn_len], ?_⟩, (bb.setCell (by simp) _).setCell (by simp) _⟩
        show OwnI _ _ _ (turnL xs W k).length _ _
        rw [turn_len]
        exact ((hown.out.store (by simp) _).store (by simp) _).mono (by omega)
end Go.Proofs.Ytgifpanbjlkmeaa

