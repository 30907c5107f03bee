/-
  The contracts of the model's functions that list switches and do them, as far as what is drawn needs them.
  The contracts of the laws' drawing function that draws two images with the same sums.
  The contract of l91Other: an image behind some switches.
  The contracts of l91Two and DrawSumsSame.
  The contract of DrawSumsSame.
  Plain facts on images with the same sums: turned, mirrored, other cells.
-/
import Derived.Test.YtgamkmkpmcenpaaEp
import Derived.Test.YtgamkmkpmcenpaaK
import Derived.Maps.AppendAt
import Derived.Deep.RegionLaw

namespace Go.Proofs.Ytgamkmkpmcenpaa
set_option maxRecDepth 100000
open Go.RowKit

set_option maxHeartbeats 400000 in
theorem get_any (W : Nat) (a : Option Addr) (n cap : Nat) (xs : List Int) (i j : Nat) (w : World) (h : Row w a n xs) (hv : Im W n xs) (hi : i < n) (hj : j < W) :
    Calls Try.prog 95 #[.agg #[.int .i64 W, .slice a n cap], .int .i64 i, .int .i64 j] w fun e w' => e = .returned (.int .i64 (bitI (xs.getD i 0) j)) ∧ Below w.heap.size w w' := by
  have hr := hv.row i hi
  have hp := pw_63 hv.w6
  have hw6 := hv.w6
  obtain ⟨b, off, rfl, hc⟩ := row_at h hi
  generalize xs.getD i 0 = x at hc hr
  have hb : b < w.heap.size := block_lt hc
  clear h hv
  go_enter Try.func95, Try.ntmps95
  go_wp2_with fail
  refine (bit_any x j _ hr.1 (by omega) (by omega)).mono ?_
  rintro e w2 ⟨rfl, rfl⟩
  go_wp2_with fail
  go_ret
  exact ⟨rfl, (Below.refl _ _).alloc (Nat.le_refl _) _⟩

set_option maxHeartbeats 1000000 in
theorem ok_any (W : Nat) (a : Option Addr) (n cap : Nat) (xs : List Int) (A B C D : Nat) (w : World) (h : Row w a n xs) (hv : Im W n xs) (h1 : A < B) (h2 : B < n) (h3 : C < D) (h4 : D < W) :
    Calls Try.prog 86 #[.agg #[.int .i64 W, .slice a n cap], .agg #[.int .i64 A, .int .i64 B, .int .i64 C, .int .i64 D]] w fun e w' => (∃ b : Bool, e = .returned (.bool b)) ∧ Below w.heap.size w w' := by
  have hw6 := hv.w6
  have hn6 := hv.l6
  have e1 : inB (B : Int) 0 ((n : Int) - 1) = true := inB_yes (by omega) (by omega)
  have e2 : inB (D : Int) 0 ((W : Int) - 1) = true := inB_yes (by omega) (by omega)
  have e3 : inB (A : Int) 0 ((B : Int) - 1) = true := inB_yes (by omega) (by omega)
  have e4 : inB (C : Int) 0 ((D : Int) - 1) = true := inB_yes (by omega) (by omega)
  have b1 := bit_01 (xs.getD A 0) C
  have b2 := bit_01 (xs.getD B 0) D
  have b3 := bit_01 (xs.getD A 0) D
  have b4 := bit_01 (xs.getD B 0) C
  have g1 := Lib.hid (fun (s : Option Addr) (c : Nat) (wx : World) (h : Row wx s n xs) => get_any W s n c xs A C wx h hv (by omega) (by omega))
  have g2 := Lib.hid (fun (s : Option Addr) (c : Nat) (wx : World) (h : Row wx s n xs) => get_any W s n c xs B D wx h hv (by omega) (by omega))
  have g3 := Lib.hid (fun (s : Option Addr) (c : Nat) (wx : World) (h : Row wx s n xs) => get_any W s n c xs A D wx h hv (by omega) (by omega))
  have g4 := Lib.hid (fun (s : Option Addr) (c : Nat) (wx : World) (h : Row wx s n xs) => get_any W s n c xs B C wx h hv (by omega) (by omega))
  generalize bitI (xs.getD A 0) C = u1 at b1 g1
  generalize bitI (xs.getD B 0) D = u2 at b2 g2
  generalize bitI (xs.getD A 0) D = u3 at b3 g3
  generalize bitI (xs.getD B 0) C = u4 at b4 g4
  clear hv
  obtain ⟨W0, hW0⟩ : ∃ W0, W0 = (w.alloc (.cells #[.int .i64 W, .slice a n cap] 25)).alloc (.cells #[.int .i64 A, .int .i64 B, .int .i64 C, .int .i64 D] 37) := ⟨_, rfl⟩
  have bb : Below w.heap.size w W0 := by subst hW0; exact ((Below.refl _ _).alloc (Nat.le_refl _) _).alloc (by simp) _
  have x0 : W0.cell? ⟨w.heap.size, 0, none⟩ = some (.int .i64 W) := by subst hW0; go_simp
  have x1 : W0.cell? ⟨w.heap.size, 1, none⟩ = some (.slice a n cap) := by subst hW0; go_simp
  have s0 : W0.cell? ⟨w.heap.size + 1, 0, none⟩ = some (.int .i64 A) := by subst hW0; go_simp
  have s1 : W0.cell? ⟨w.heap.size + 1, 1, none⟩ = some (.int .i64 B) := by subst hW0; go_simp
  have s2 : W0.cell? ⟨w.heap.size + 1, 2, none⟩ = some (.int .i64 C) := by subst hW0; go_simp
  have s3 : W0.cell? ⟨w.heap.size + 1, 3, none⟩ = some (.int .i64 D) := by subst hW0; go_simp
  have r := Lib.hid (h.bel bb)
  have bb := Lib.hid bb
  clear h
  go_enter Try.func86, Try.ntmps86
  go_wp2_with fail
  rw [← hW0]
  clear hW0
  refine (in_any _ _ _ _).mono ?_
  rintro e w1 ⟨rfl, rfl⟩
  rw [e1]
  go_wp2_with fail
  refine (in_any _ _ _ _).mono ?_
  rintro e w1 ⟨rfl, rfl⟩
  rw [e2]
  go_wp2_with fail
  refine (in_any _ _ _ _).mono ?_
  rintro e w1 ⟨rfl, rfl⟩
  rw [e3]
  go_wp2_with fail
  refine (in_any _ _ _ _).mono ?_
  rintro e w1 ⟨rfl, rfl⟩
  rw [e4]
  go_wp2_with fail
  refine (g1.out _ _ _ r.out).mono ?_
  rintro e w1 ⟨rfl, hb⟩
  replace x0 := kept hb (block_lt x0) x0
  replace x1 := kept hb (block_lt x1) x1
  replace s0 := kept hb (block_lt s0) s0
  replace s1 := kept hb (block_lt s1) s1
  replace s2 := kept hb (block_lt s2) s2
  replace s3 := kept hb (block_lt s3) s3
  replace r := Lib.hid (r.out.bel hb)
  replace bb := Lib.hid (bb.out.trans (hb.mono bb.out.size))
  clear hb
  go_wp2_with fail
  refine (g2.out _ _ _ r.out).mono ?_
  rintro e w2 ⟨rfl, hb⟩
  replace x0 := kept hb (block_lt x0) x0
  replace x1 := kept hb (block_lt x1) x1
  replace s0 := kept hb (block_lt s0) s0
  replace s1 := kept hb (block_lt s1) s1
  replace s2 := kept hb (block_lt s2) s2
  replace s3 := kept hb (block_lt s3) s3
  replace r := Lib.hid (r.out.bel hb)
  replace bb := Lib.hid (bb.out.trans (hb.mono bb.out.size))
  clear hb
  by_cases q1 : u2 = u1
  case neg =>
    have q2 : (u2 == u1) = false := by rw [beq_eq_false_iff_ne]; exact q1
    go_wp2_with fail
    go_ret
    exact ⟨⟨_, rfl⟩, bb.out⟩
  subst q1
  go_wp2_with fail
  refine (g3.out _ _ _ r.out).mono ?_
  rintro e w3 ⟨rfl, hb⟩
  replace x0 := kept hb (block_lt x0) x0
  replace x1 := kept hb (block_lt x1) x1
  replace s0 := kept hb (block_lt s0) s0
  replace s1 := kept hb (block_lt s1) s1
  replace s2 := kept hb (block_lt s2) s2
  replace s3 := kept hb (block_lt s3) s3
  replace r := Lib.hid (r.out.bel hb)
  replace bb := Lib.hid (bb.out.trans (hb.mono bb.out.size))
  clear hb
  have wu : IntKind.i64.wrap (1 - u2) = 1 - u2 := IntWalk.i64_in _ ⟨by omega, by omega⟩
  by_cases q3 : u3 = 1 - u2
  case neg =>
    have q2 : (u3 == 1 - u2) = false := by rw [beq_eq_false_iff_ne]; exact q3
    go_wp2_with fail
    go_ret
    exact ⟨⟨_, rfl⟩, bb.out⟩
  subst q3
  go_wp2_with fail
  refine (g4.out _ _ _ r.out).mono ?_
  rintro e w4 ⟨rfl, hb⟩
  replace bb := Lib.hid (bb.out.trans (hb.mono bb.out.size))
  clear hb
  by_cases q5 : u4 = 1 - u2
  case neg =>
    have q2 : (u4 == 1 - u2) = false := by rw [beq_eq_false_iff_ne]; exact q5
    go_wp2_with fail
    go_ret
    exact ⟨⟨_, rfl⟩, bb.out⟩
  subst q5
  go_wp2_with fail
  go_ret
  exact ⟨⟨_, rfl⟩, bb.out⟩

theorem infoSw : (Try.prog.info? 37).map (fun i => (i.zero, i.size, i.bytes)) = some (some (.agg #[.int .i64 0, .int .i64 0, .int .i64 0, .int .i64 0]), 4, 32) := by kernel_rfl
/-- A list of places of switches in an image with n rows and W columns, four numbers each. -/
def Good (L : List Int) (c W n : Nat) : Prop := L.length = c * 4 ∧ ∀ j, j < c → ∃ A B C D : Nat, L.getD (j * 4) 0 = A ∧ L.getD (j * 4 + 1) 0 = B ∧ L.getD (j * 4 + 2) 0 = C ∧ L.getD (j * 4 + 3) 0 = D ∧ A < B ∧ B < n ∧ C < D ∧ D < W
theorem good_nil (W n : Nat) : Good [] 0 W n := ⟨rfl, fun _ hj => absurd hj (Nat.not_lt_zero _)⟩
theorem getD_left {xs ys : List Int} {i : Nat} (h : i < xs.length) : (xs ++ ys).getD i 0 = xs.getD i 0 := by
  rw [List.getD_eq_getElem?_getD, List.getElem?_append_left h, ← List.getD_eq_getElem?_getD]
theorem getD_right {xs ys : List Int} {i k : Nat} (h : i = xs.length + k) : (xs ++ ys).getD i 0 = ys.getD k 0 := by
  subst h
  rw [List.getD_eq_getElem?_getD, List.getElem?_append_right (by omega), ← List.getD_eq_getElem?_getD, show xs.length + k - xs.length = k by omega]
theorem good_snoc {L : List Int} {c W n A B C D : Nat} (h : Good L c W n) (h1 : A < B) (h2 : B < n) (h3 : C < D) (h4 : D < W) : Good (L ++ [(A : Int), (B : Int), (C : Int), (D : Int)]) (c + 1) W n := by
  have hl := h.1
  refine ⟨by rw [List.length_append, hl]; simp; omega, fun j hj => ?_⟩
  by_cases e : j = c
  · subst e
    exact ⟨A, B, C, D, by rw [getD_right (k := 0) (by omega)]; rfl, by rw [getD_right (k := 1) (by omega)]; rfl, by rw [getD_right (k := 2) (by omega)]; rfl, by rw [getD_right (k := 3) (by omega)]; rfl, h1, h2, h3, h4⟩
  · obtain ⟨a, b, c', d, p1, p2, p3, p4, p5⟩ := h.2 j (by omega)
    exact ⟨a, b, c', d, by rw [getD_left (by omega)]; exact p1, by rw [getD_left (by omega)]; exact p2, by rw [getD_left (by omega)]; exact p3, by rw [getD_left (by omega)]; exact p4, p5⟩
/-- The list so far, in the middle of SwitchList. -/
structure SL (w wr : World) (W n : Nat) (s : Option Addr) (cg : Nat) (m : Nat) (v : Value) : Prop where
  c0 : wr.cell? ⟨w.heap.size, 0, none⟩ = some (.int .i64 W)
  c1 : wr.cell? ⟨w.heap.size, 1, none⟩ = some (.slice s n cg)
  bel : Below w.heap.size w wr
  own : ∃ c L, c ≤ m ∧ wr.ownsRow (w.heap.size + 1) 37 4 v c (L.map (Value.int .i64)) ∧ Good L c W n
theorem SL.le {w wr : World} {W n : Nat} {s : Option Addr} {cg m m' : Nat} {v : Value} (h : SL w wr W n s cg m v) (hm : m ≤ m') : SL w wr W n s cg m' v := by
  obtain ⟨c, L, h1, h2⟩ := h.own
  exact ⟨h.c0, h.c1, h.bel, c, L, by omega, h2⟩
theorem SL.move {w wr w1 : World} {W n : Nat} {s : Option Addr} {cg m : Nat} {v : Value} (h : SL w wr W n s cg m v) (hb : Below wr.heap.size wr w1) : SL w w1 W n s cg m v := by
  obtain ⟨c, L, h1, h2, h3⟩ := h.own
  refine ⟨kept hb (block_lt h.c0) h.c0, kept hb (block_lt h.c1) h.c1, h.bel.trans (hb.mono h.bel.size), c, L, h1, ?_, h3⟩
  refine World.ownsRow.kept h2 (below_grown hb none) ?_
  rcases h2.2 with ⟨rfl, _⟩ | ⟨g, c, cur, rfl, _⟩
  · left; rfl
  · right; simp [Value.ownBlock]

theorem ownsRow_far {w : World} {B n size : Nat} {T : TypeId} {v : Value} {xs : List Value} (h : w.ownsRow B T size v n xs) : ∀ g, v.ownBlock = some g → B ≤ g := by
  intro g hg
  rcases h.2 with ⟨rfl, _⟩ | ⟨g', c, cur, rfl, h2, _⟩
  · cases hg
  · simp [Value.ownBlock] at hg; omega

/-- What SwitchList leaves. -/
def GivesS (w : World) (W n : Nat) (e : Ending) (w' : World) : Prop :=
  ∃ v c L, e = .returned v ∧ c ≤ 1600 ∧ w'.ownsRow w.heap.size 37 4 v c (L.map (Value.int .i64)) ∧ Good L c W n ∧ Below w.heap.size w w'

set_option maxHeartbeats 2000000 in
set_option maxRecDepth 100000 in
theorem list_any (W : Nat) (a : Option Addr) (n cap : Nat) (xs : List Int) (w : World) (h : Row w a n xs) (hv : Im W n xs) :
    Calls Try.prog 69 #[.agg #[.int .i64 W, .slice a n cap]] w (GivesS w W n) := by
  have hw6 := hv.w6
  have hn6 := hv.l6
  obtain ⟨i0, hi, hz0, hz1, hz2⟩ := info_parts infoSw
  obtain ⟨W0, hW0⟩ : ∃ W0, W0 = (w.alloc (.cells #[.int .i64 W, .slice a n cap] 25)).alloc (.cells #[] 37) := ⟨_, rfl⟩
  have hS : SL w W0 W n a cap 0 (.slice (some ⟨w.heap.size + 1, 0, none⟩) 0 0) := by
    subst hW0
    exact ⟨by go_simp, by go_simp, ((Below.refl _ _).alloc (Nat.le_refl _) _).alloc (by simp) _, 0, [], Nat.le_refl _, by
      have := World.ownsRow_lit (base := w.heap.size + 1) (e := 37) (size := 4) (w.alloc (.cells #[.int .i64 W, .slice a n cap] 25)) #[] 0 (by simp) (by decide) rfl
      simpa using this, good_nil _ _⟩
  have r := Lib.hid h
  have hok := Lib.hid (fun (A B C D : Nat) (s : Option Addr) (c : Nat) (wx : World) (h : Row wx s n xs) h1 h2 h3 h4 => ok_any W s n c xs A B C D wx h hv h1 h2 h3 h4)
  have hv := Lib.hid hv.valid
  replace hS := Lib.hid hS
  clear h
  have x0 := hS.out.c0
  have x1 := hS.out.c1
  go_enter Try.func69, Try.ntmps69
  go_wp2_with fail
  rw [← hW0]
  clear hW0
  refine (valid_spec _ _ _ _ xs _ (r.out.bel hS.out.bel) (by omega)).mono ?_
  rintro e w1 ⟨rfl, hb⟩
  rw [hv.out]
  replace hS := Lib.hid (hS.out.move hb)
  clear hb x0 x1
  go_wp2_with fail
  go_loopw [3, 4] (fun o i wr => ∃ k : Nat, k ≤ n ∧ i = .int .i64 k ∧ Hid (SL w wr W n a cap (216 * k) o)) (fun _ i _ => n - (intOf i).toNat)
  case atStart => exact ⟨0, Nat.zero_le _, rfl, hS⟩
  case round =>
    obtain ⟨i, hi1, rfl, hQ⟩ := hrel
    obtain ⟨wi, rfl⟩ : ∃ wi : World, wi = wr := ⟨_, rfl⟩
    clear hS
    have x0 := hQ.out.c0
    have x1 := hQ.out.c1
    by_cases hlt : i < n
    · go_wp2_with fail
      go_loopw [3, 5] (fun o q wr => ∃ k : Nat, i + 1 ≤ k ∧ k ≤ n ∧ q = .int .i64 k ∧ Hid (SL w wr W n a cap (216 * i + 36 * k) o)) (fun _ i _ => n - (intOf i).toNat)
      case atStart => exact ⟨i + 1, by omega, by omega, by simp, hQ.out.le (by omega)⟩
      case round =>
        obtain ⟨k, hk0, hk1, rfl, hQ2⟩ := hrel
        obtain ⟨wk, rfl⟩ : ∃ wk : World, wk = wr := ⟨_, rfl⟩
        clear hQ x0 x1
        have x0 := hQ2.out.c0
        have x1 := hQ2.out.c1
        by_cases hlk : k < n
        · go_wp2_with fail
          go_loopw [3, 6] (fun o q wr => ∃ j : Nat, j ≤ W ∧ q = .int .i64 j ∧ Hid (SL w wr W n a cap (216 * i + 36 * k + 6 * j) o)) (fun _ i _ => W - (intOf i).toNat)
          case atStart => exact ⟨0, by omega, rfl, hQ2.out.le (by omega)⟩
          case round =>
            obtain ⟨j, hj1, rfl, hQ3⟩ := hrel
            obtain ⟨wj, rfl⟩ : ∃ wj : World, wj = wr := ⟨_, rfl⟩
            clear hQ2 x0 x1
            have x0 := hQ3.out.c0
            have x1 := hQ3.out.c1
            by_cases hlj : j < W
            · go_wp2_with fail
              go_loopw [3, 7] (fun o q wr => ∃ l : Nat, j + 1 ≤ l ∧ l ≤ W ∧ q = .int .i64 l ∧ Hid (SL w wr W n a cap (216 * i + 36 * k + 6 * j + l) o)) (fun _ i _ => W - (intOf i).toNat)
              case atStart => exact ⟨j + 1, by omega, by omega, by simp, hQ3.out.le (by omega)⟩
              case round =>
                obtain ⟨l, hl0, hl1, rfl, hQ4⟩ := hrel
                obtain ⟨wl, rfl⟩ : ∃ wl : World, wl = wr := ⟨_, rfl⟩
                clear hQ3 x0 x1
                have x0 := hQ4.out.c0
                have x1 := hQ4.out.c1
                have lx : w.heap.size < wl.heap.size := block_lt x0
                by_cases hll : l < W
                · have hb : Below wl.heap.size wl (wl.alloc (.cells #[.int .i64 i, .int .i64 k, .int .i64 j, .int .i64 l] 37)) := (Below.refl _ _).alloc (Nat.le_refl _) _
                  have hQ5 := Lib.hid (hQ4.out.move hb)
                  clear hb
                  go_wp2_with fail
                  refine (hok.out i k j l _ _ _ (r.out.bel hQ5.out.bel) (by omega) (by omega) (by omega) (by omega)).mono ?_
                  rintro e w5 ⟨⟨b, rfl⟩, hb⟩
                  have s0 : w5.cell? ⟨wl.heap.size, 0, none⟩ = some (.int .i64 i) := kept hb (by simp) (by simp)
                  have s1 : w5.cell? ⟨wl.heap.size, 1, none⟩ = some (.int .i64 k) := kept hb (by simp) (by simp)
                  have s2 : w5.cell? ⟨wl.heap.size, 2, none⟩ = some (.int .i64 j) := kept hb (by simp) (by simp)
                  have s3 : w5.cell? ⟨wl.heap.size, 3, none⟩ = some (.int .i64 l) := kept hb (by simp) (by simp)
                  have hQ6 := Lib.hid (hQ5.out.move hb)
                  clear hb hQ4 hQ5 x0 x1
                  have x0 := hQ6.out.c0
                  have x1 := hQ6.out.c1
                  cases b with
                  | false =>
                    go_wp2_with fail
                    exact ⟨⟨l + 1, by omega, by omega, by go_num, hQ6.out.le (by omega)⟩, by simp [intOf]; omega⟩
                  | true =>
                    obtain ⟨c, L, hc, hown, hg⟩ := hQ6.out.own
                    have hg2 := Lib.hid (good_snoc hg (show i < k by omega) hlk (show j < l by omega) hll)
                    have l5 : w.heap.size < w5.heap.size := block_lt x0
                    go_wp2_with (at_builtin; refine wpList_append_own _ rfl _ _ 41 rfl (w.heap.size + 1) 37 i0 (.agg #[.int .i64 0, .int .i64 0, .int .i64 0, .int .i64 0]) 4 32 Try.underlying41 hi hz0 hz1 hz2 rfl (by decide) _ c (L.map (Value.int .i64)) rfl (World.ownsRow.alloc hown _) ⟨w5.heap.size, 0, none⟩ 1 1 [.int .i64 i, .int .i64 k, .int .i64 j, .int .i64 l] rfl rfl ?c1 ?c2 ?c3 ?c4 ?c5 ?_)
                    case c1 => intro j u hj; match j, hj with | 0, hj | 1, hj | 2, hj | 3, hj => simp at hj; subst hj; simp [Addr.add]
                    case c2 => intro u hu; simp at hu; rcases hu with rfl | rfl | rfl | rfl <;> rfl
                    case c3 => unfold maxLen; omega
                    case c4 => omega
                    case c5 => simp; omega
                    intro v' w6 hown1 hgr _
                    have hb3 : Below (w.heap.size + 1) w5 w6 := ((Below.refl _ _).alloc (by omega) _).grown hgr (by simp; omega) (ownsRow_far hown)
                    have hQ7 : Hid (SL w w6 W n a cap (216 * i + 36 * k + 6 * j + (l + 1)) v') :=
                      ⟨kept hb3 (by simp) x0, kept hb3 (by simp) x1, hQ6.out.bel.trans (hb3.mono (by omega)), c + 1, _, by omega, by rw [List.map_append]; exact hown1, hg2.out⟩
                    clear hown1 hgr hb3 hown hg hQ6
                    go_wp2_with fail
                    exact ⟨⟨l + 1, by omega, by omega, by go_num, hQ7⟩, by simp [intOf]; omega⟩
                · have : l = W := by omega
                  subst this
                  go_wp2_with fail
                  exact ⟨⟨j + 1, by omega, by go_num, hQ4.out.le (by omega)⟩, by simp [intOf]; omega⟩
            · have : j = W := by omega
              subst this
              go_wp2_with fail
              exact ⟨⟨k + 1, by omega, by omega, by go_num, hQ3.out.le (by omega)⟩, by simp [intOf]; omega⟩
        · have : k = n := by omega
          subst this
          go_wp2_with fail
          exact ⟨⟨i + 1, by omega, by go_num, hQ2.out.le (by omega)⟩, by simp [intOf]; omega⟩
    · have : i = n := by omega
      subst this
      obtain ⟨c, L, hc, hown, hg⟩ := hQ.out.own
      have hb := Lib.hid hQ.out.bel
      have hg := Lib.hid hg
      have hown := Lib.hid hown
      go_wp2_with fail
      go_ret
      refine ⟨_, c, L, rfl, by omega, ⟨hown.out.1, ?_⟩, hg.out, hb.out⟩
      rcases hown.out.2 with h | ⟨g, c', cur, e, hg, r⟩
      · exact .inl h
      · exact .inr ⟨g, c', cur, e, by omega, r⟩
end Go.Proofs.Ytgamkmkpmcenpaa

namespace Go.Proofs.Ytgamkmkpmcenpaa
set_option maxRecDepth 100000
open Go.RowKit

/-- What l11Do leaves. -/
def GivesM (w : World) (W n : Nat) (e : Ending) (w' : World) : Prop :=
  ∃ (a : Option Addr) (c : Nat) (ys : List Int), e = .returned (.agg #[.int .i64 W, .slice a n c]) ∧ OwnI w' w.heap.size a n c ys ∧ Im W n ys ∧ Below w.heap.size w w'

set_option maxHeartbeats 1000000 in
set_option maxRecDepth 100000 in
theorem do_any (W : Nat) (a : Option Addr) (n cap : Nat) (xs : List Int) (A B C D : Nat) (w : World) (h : Row w a n xs) (hv : Im W n xs) (h1 : A < B) (h2 : B < n) (h3 : C < D) (h4 : D < W) :
    Calls Try.prog 70 #[.agg #[.int .i64 W, .slice a n cap], .agg #[.int .i64 A, .int .i64 B, .int .i64 C, .int .i64 D]] w (GivesM w W n) := by
  have hw6 := hv.w6
  have hn6 := hv.l6
  obtain ⟨W0, hW0⟩ : ∃ W0, W0 = ((w.alloc (.cells #[.int .i64 W, .slice a n cap] 25)).alloc (.cells #[.int .i64 A, .int .i64 B, .int .i64 C, .int .i64 D] 37)).alloc (.cells #[.int .i64 0, .slice none 0 0] 25) := ⟨_, rfl⟩
  have bb : Below w.heap.size w W0 := by subst hW0; exact (((Below.refl _ _).alloc (Nat.le_refl _) _).alloc (by simp) _).alloc (by simp; omega) _
  have x0 : W0.cell? ⟨w.heap.size, 0, none⟩ = some (.int .i64 W) := by subst hW0; go_simp
  have x1 : W0.cell? ⟨w.heap.size, 1, none⟩ = some (.slice a n cap) := by subst hW0; go_simp
  have s0 : W0.cell? ⟨w.heap.size + 1, 0, none⟩ = some (.int .i64 A) := by subst hW0; go_simp
  have s1 : W0.cell? ⟨w.heap.size + 1, 1, none⟩ = some (.int .i64 B) := by subst hW0; go_simp
  have s2 : W0.cell? ⟨w.heap.size + 1, 2, none⟩ = some (.int .i64 C) := by subst hW0; go_simp
  have s3 : W0.cell? ⟨w.heap.size + 1, 3, none⟩ = some (.int .i64 D) := by subst hW0; go_simp
  have z0 : W0.cell? ⟨w.heap.size + 1 + 1, 0, none⟩ = some (.int .i64 0) := by subst hW0; go_simp
  have z1 : W0.cell? ⟨w.heap.size + 1 + 1, 1, none⟩ = some (.slice none 0 0) := by subst hW0; go_simp
  have zf : ∀ o, W0.frozen? ⟨w.heap.size + 1 + 1, o, none⟩ = false := fun o => by subst hW0; go_simp
  have l0 : w.heap.size + 1 + 1 < W0.heap.size := block_lt z0
  have r := Lib.hid (h.bel bb)
  have zb : Hid (Box W0 (w.heap.size + 1 + 1) (.int .i64 0) (.slice none 0 0)) := ⟨z0, z1, zf⟩
  have bb := Lib.hid bb
  clear z0 z1 zf
  obtain ⟨b, off, rfl, hcc⟩ := r.out.2.resolve_left (by omega)
  have hl := h.1
  clear h
  go_enter Try.func70, Try.ntmps70
  go_wp2_with fail
  rw [← hW0]
  clear hW0
  refine (copy_spec W b off n cap xs _ hl hcc (by omega) (by omega)).mono ?_
  rintro e w1 ⟨⟨ac, cc, rfl, ho⟩, hb⟩
  obtain ⟨g, rfl⟩ : ∃ g, ac = some ⟨g, 0, none⟩ := by
    rcases ho.cases with ⟨_, h, _⟩ | ⟨g, h, _⟩
    · omega
    · exact ⟨g, h⟩
  have hg := own_ge ho
  clear hcc
  have szw1 := hb.size
  replace x0 := kept hb (block_lt x0) x0
  replace x1 := kept hb (block_lt x1) x1
  replace s0 := kept hb (block_lt s0) s0
  replace s1 := kept hb (block_lt s1) s1
  replace s2 := kept hb (block_lt s2) s2
  replace s3 := kept hb (block_lt s3) s3
  replace r := Lib.hid (r.out.bel hb)
  replace bb := Lib.hid (bb.out.trans (hb.mono bb.out.size))
  replace zb := Lib.hid (zb.out.bel hb)
  clear hb
  have hbx : Below w1.heap.size w1 (w1.alloc (.cells #[.int .i64 W, .slice (some ⟨g, 0, none⟩) n cc] 25)) := (Below.refl _ _).alloc (Nat.le_refl _) _
  replace x0 := kept hbx (block_lt x0) x0
  replace x1 := kept hbx (block_lt x1) x1
  replace s0 := kept hbx (block_lt s0) s0
  replace s1 := kept hbx (block_lt s1) s1
  replace s2 := kept hbx (block_lt s2) s2
  replace s3 := kept hbx (block_lt s3) s3
  replace r := Lib.hid (r.out.bel hbx)
  replace bb := Lib.hid (bb.out.trans (hbx.mono bb.out.size))
  replace zb := Lib.hid (zb.out.bel hbx)
  have o0 : (w1.alloc (.cells #[.int .i64 W, .slice (some ⟨g, 0, none⟩) n cc] 25)).cell? ⟨w1.heap.size, 0, none⟩ = some (.int .i64 W) := by simp
  have o1 : (w1.alloc (.cells #[.int .i64 W, .slice (some ⟨g, 0, none⟩) n cc] 25)).cell? ⟨w1.heap.size, 1, none⟩ = some (.slice (some ⟨g, 0, none⟩) n cc) := by simp
  have o := Lib.hid (ho.bel hbx)
  have hI := Lib.hid hv
  clear hbx ho hv
  go_wp2_with fail
  refine (get_any W _ n cap xs A C _ r.out hI.out (by omega) (by omega)).mono ?_
  rintro e w2 ⟨rfl, hb⟩
  generalize bitI (xs.getD A 0) C = u
  replace x0 := kept hb (block_lt x0) x0
  replace x1 := kept hb (block_lt x1) x1
  replace s0 := kept hb (block_lt s0) s0
  replace s1 := kept hb (block_lt s1) s1
  replace s2 := kept hb (block_lt s2) s2
  replace s3 := kept hb (block_lt s3) s3
  replace o0 := kept hb (block_lt o0) o0
  replace o1 := kept hb (block_lt o1) o1
  replace r := Lib.hid (r.out.bel hb)
  replace o := Lib.hid (o.out.bel hb)
  replace bb := Lib.hid (bb.out.trans (hb.mono bb.out.size))
  replace zb := Lib.hid (zb.out.bel hb)
  have s2' : w1.heap.size < w2.heap.size := block_lt o0
  clear hb
  obtain ⟨S, hS⟩ : ∃ S, (u == 0) = S := ⟨_, rfl⟩
  obtain ⟨ys, hys⟩ : ∃ ys, ys = xs := ⟨_, rfl⟩
  rw [← hys] at o hI
  clear hys
  go_wp2_with fail
  have hr := hI.out.row A (by omega)
  have hp := pw_63 hw6
  refine (put_spec W _ g n cc ys A C (S) _ o.out (by omega) (by omega) hr.1 (by omega)).mono ?_
  rintro e w3 ⟨rfl, hg0, ho⟩
  have szw3 := hg0.size
  replace x0 := hg0.cell x0 (by simp; omega)
  replace x1 := hg0.cell x1 (by simp; omega)
  replace s0 := hg0.cell s0 (by simp; omega)
  replace s1 := hg0.cell s1 (by simp; omega)
  replace s2 := hg0.cell s2 (by simp; omega)
  replace s3 := hg0.cell s3 (by simp; omega)
  replace o0 := hg0.cell o0 (by simp; omega)
  replace o1 := hg0.cell o1 (by simp; omega)
  replace zb := Lib.hid (zb.out.grown hg0 (by omega))
  replace bb := Lib.hid (bb.out.trans ((grown_below hg0).mono (by omega)))
  replace o := Lib.hid (show OwnI _ _ _ _ _ (putL ys A C (S)) from ho)
  replace hI := Lib.hid (hI.out.put (i := A) (j := C) (by omega) (by omega) (S))
  clear ho hg0 hr hp
  generalize putL ys A C (S) = ys0 at o hI
  obtain ⟨ys, hys⟩ : ∃ ys, ys = ys0 := ⟨_, rfl⟩
  rw [← hys] at o hI
  clear hys
  go_wp2_with fail
  have hr := hI.out.row B (by omega)
  have hp := pw_63 hw6
  refine (put_spec W _ g n cc ys B D (S) _ o.out (by omega) (by omega) hr.1 (by omega)).mono ?_
  rintro e w4 ⟨rfl, hg1, ho⟩
  have szw4 := hg1.size
  replace x0 := hg1.cell x0 (by simp; omega)
  replace x1 := hg1.cell x1 (by simp; omega)
  replace s0 := hg1.cell s0 (by simp; omega)
  replace s1 := hg1.cell s1 (by simp; omega)
  replace s2 := hg1.cell s2 (by simp; omega)
  replace s3 := hg1.cell s3 (by simp; omega)
  replace o0 := hg1.cell o0 (by simp; omega)
  replace o1 := hg1.cell o1 (by simp; omega)
  replace zb := Lib.hid (zb.out.grown hg1 (by omega))
  replace bb := Lib.hid (bb.out.trans ((grown_below hg1).mono (by omega)))
  replace o := Lib.hid (show OwnI _ _ _ _ _ (putL ys B D (S)) from ho)
  replace hI := Lib.hid (hI.out.put (i := B) (j := D) (by omega) (by omega) (S))
  clear ho hg1 hr hp
  generalize putL ys B D (S) = ys1 at o hI
  obtain ⟨ys, hys⟩ : ∃ ys, ys = ys1 := ⟨_, rfl⟩
  rw [← hys] at o hI
  clear hys
  go_wp2_with fail
  have hr := hI.out.row A (by omega)
  have hp := pw_63 hw6
  refine (put_spec W _ g n cc ys A D (!S) _ o.out (by omega) (by omega) hr.1 (by omega)).mono ?_
  rintro e w5 ⟨rfl, hg2, ho⟩
  have szw5 := hg2.size
  replace x0 := hg2.cell x0 (by simp; omega)
  replace x1 := hg2.cell x1 (by simp; omega)
  replace s0 := hg2.cell s0 (by simp; omega)
  replace s1 := hg2.cell s1 (by simp; omega)
  replace s2 := hg2.cell s2 (by simp; omega)
  replace s3 := hg2.cell s3 (by simp; omega)
  replace o0 := hg2.cell o0 (by simp; omega)
  replace o1 := hg2.cell o1 (by simp; omega)
  replace zb := Lib.hid (zb.out.grown hg2 (by omega))
  replace bb := Lib.hid (bb.out.trans ((grown_below hg2).mono (by omega)))
  replace o := Lib.hid (show OwnI _ _ _ _ _ (putL ys A D (!S)) from ho)
  replace hI := Lib.hid (hI.out.put (i := A) (j := D) (by omega) (by omega) (!S))
  clear ho hg2 hr hp
  generalize putL ys A D (!S) = ys2 at o hI
  obtain ⟨ys, hys⟩ : ∃ ys, ys = ys2 := ⟨_, rfl⟩
  rw [← hys] at o hI
  clear hys
  go_wp2_with fail
  have hr := hI.out.row B (by omega)
  have hp := pw_63 hw6
  refine (put_spec W _ g n cc ys B C (!S) _ o.out (by omega) (by omega) hr.1 (by omega)).mono ?_
  rintro e w6 ⟨rfl, hg3, ho⟩
  have szw6 := hg3.size
  replace x0 := hg3.cell x0 (by simp; omega)
  replace x1 := hg3.cell x1 (by simp; omega)
  replace s0 := hg3.cell s0 (by simp; omega)
  replace s1 := hg3.cell s1 (by simp; omega)
  replace s2 := hg3.cell s2 (by simp; omega)
  replace s3 := hg3.cell s3 (by simp; omega)
  replace o0 := hg3.cell o0 (by simp; omega)
  replace o1 := hg3.cell o1 (by simp; omega)
  replace zb := Lib.hid (zb.out.grown hg3 (by omega))
  replace bb := Lib.hid (bb.out.trans ((grown_below hg3).mono (by omega)))
  replace o := Lib.hid (show OwnI _ _ _ _ _ (putL ys B C (!S)) from ho)
  replace hI := Lib.hid (hI.out.put (i := B) (j := C) (by omega) (by omega) (!S))
  clear ho hg3 hr hp
  generalize putL ys B C (!S) = ys3 at o hI
  obtain ⟨ys, hys⟩ : ∃ ys, ys = ys3 := ⟨_, rfl⟩
  rw [← hys] at o hI
  clear hys
  have z0 := zb.out.c0
  have z1 := zb.out.c1
  have zf := zb.out.fz
  go_wp2_with fail
  refine bodyPost_ret (v := .agg #[.int .i64 W, .slice (some ⟨g, 0, none⟩) n cc]) (by simp [results, Try.results70, go_sem, z0, z1]) rfl ?_
  exact ⟨_, cc, ys, rfl, ((o.out.store (show w.heap.size + 1 + 1 < W0.heap.size by omega) _).store (show w.heap.size + 1 + 1 < W0.heap.size by omega) _).mono (by omega), hI.out, (bb.out.setCell (by simp; omega) _).setCell (by simp; omega) _⟩
end Go.Proofs.Ytgamkmkpmcenpaa

namespace Go.Proofs.Ytgamkmkpmcenpaa
set_option maxRecDepth 100000
open Go.RowKit

set_option maxHeartbeats 400000 in
theorem list_no (W : Int) (a : Option Addr) (n cap : Nat) (xs : List Int) (w : World) (h : Row w a n xs) (hn : n ≤ 6) (hv : validB W xs = false) :
    Calls Try.prog 69 #[.agg #[.int .i64 W, .slice a n cap]] w fun e w' => (∃ g, e = .returned (.slice (some ⟨g, 0, none⟩) 0 0)) ∧ Below w.heap.size w w' := by
  have H := (h.alloc (.cells #[.int .i64 W, .slice a n cap] 25)).alloc (.cells #[] 37)
  have hb0 : Below w.heap.size w ((w.alloc (.cells #[.int .i64 W, .slice a n cap] 25)).alloc (.cells #[] 37)) := ((Below.refl _ _).alloc (Nat.le_refl _) _).alloc (by simp) _
  go_enter Try.func69, Try.ntmps69
  go_wp2_with fail
  refine (valid_spec _ _ _ _ xs _ H (by omega)).mono ?_
  rintro e w1 ⟨rfl, hb⟩
  rw [hv]
  go_wp2_with fail
  go_ret
  exact ⟨⟨_, rfl⟩, hb0.trans (hb.mono hb0.size)⟩

structure OS (w wr : World) (r : Nat) (a : Option Addr) (len cap : Nat) (zs : List Int) (p : Nat) (W : Int) (s : Option Addr) (n cg : Nat) (xs : List Int) : Prop where
  ib : Box wr w.heap.size (.int .i64 W) (.slice s n cg)
  zb : Box wr (w.heap.size + 1) (.int .i64 0) (.slice none 0 0)
  row : Row wr s n xs
  rd : Rd wr r a len cap zs p
  gr : w.grownBy wr (some r)
  hr : r < w.heap.size
  far : ∀ b off, a = some ⟨b, off, none⟩ → 0 < len → b < w.heap.size
  sr : ∀ b off, s = some ⟨b, off, none⟩ → 0 < n → b ≠ r ∧ b ≠ w.heap.size ∧ b ≠ w.heap.size + 1
theorem OS.pick {w wr w1 : World} {r : Nat} {a : Option Addr} {len cap : Nat} {zs : List Int} {p p' : Nat} {W : Int} {s : Option Addr} {n cg : Nat} {xs : List Int} (h : OS w wr r a len cap zs p W s n cg xs) (hr : Rd w1 r a len cap zs p') (hg : wr.grownBy w1 (some r)) : OS w w1 r a len cap zs p' W s n cg xs := by
  have n1 := h.hr
  exact ⟨h.ib.grown hg (by omega), h.zb.grown hg (by omega), h.row.apart hg (fun b off e hl => by have := (h.sr b off e hl).1; simpa using this), hr, grown_trans h.gr hg, h.hr, h.far, h.sr⟩
theorem OS.bel {w wr w1 : World} {r : Nat} {a : Option Addr} {len cap : Nat} {zs : List Int} {p : Nat} {W : Int} {s : Option Addr} {n cg : Nat} {xs : List Int} (h : OS w wr r a len cap zs p W s n cg xs) (hb : Below wr.heap.size wr w1) : OS w w1 r a len cap zs p W s n cg xs :=
  h.pick (h.rd.bel hb) (below_grown hb _)
theorem OS.put {w wr : World} {r : Nat} {a : Option Addr} {len cap : Nat} {zs : List Int} {p : Nat} {W V : Int} {s t : Option Addr} {n m cg c : Nat} {xs ys : List Int} (h : OS w wr r a len cap zs p W s n cg xs) (hR : Row wr t m ys) (hs : ∀ b off, t = some ⟨b, off, none⟩ → 0 < m → b ≠ r ∧ b ≠ w.heap.size ∧ b ≠ w.heap.size + 1) :
    OS w ((wr.setCell ⟨w.heap.size, 0, none⟩ (.int .i64 V)).setCell ⟨w.heap.size, 1, none⟩ (.slice t m c)) r a len cap zs p V t m c ys := by
  have n1 := h.hr
  have hg := set2_grown wr w.heap.size (.int .i64 V) (.slice t m c)
  exact ⟨⟨set2_c0 h.ib.c0, set2_c1 h.ib.c1, fun o => by rw [World.frozen?_setCell, World.frozen?_setCell]; exact h.ib.fz o⟩, h.zb.grown hg (by omega), set2_row hR (fun b off e hl => (hs b off e hl).2.1),
    h.rd.apart hg (by omega) (fun b off e hl => by have := h.far b off e hl; omega), grown_then h.gr (set2_bel (Below.refl _ _) (Nat.le_refl _)), h.hr, h.far, hs⟩

/-- What l91Other leaves. -/
def OthD (w : World) (r : Nat) (a : Option Addr) (len cap : Nat) (zs : List Int) (p : Nat) (W : Int) (s : Option Addr) (n : Nat) (e : Ending) (w' : World) : Prop :=
  ∃ (t : Option Addr) (c : Nat) (ys : List Int) (p' : Nat), e = .returned (.agg #[.int .i64 W, .slice t n c]) ∧ Row w' t n ys ∧ w.grownBy w' (some r) ∧ Rd w' r a len cap zs p' ∧ p' ≤ p + 20 ∧ (∀ b off, t = some ⟨b, off, none⟩ → 0 < n → t = s ∨ w.heap.size ≤ b)
theorem sw_cells {w : World} {B g c k W n : Nat} {L : List Int} (h : w.ownsRow B 37 4 (.slice (some ⟨g, 0, none⟩) c k) c (L.map (Value.int .i64))) (hg : Good L c W n) {q : Nat} (hq : q < c) :
    ∃ A B C D : Nat, w.cell? ⟨g, q * 4, none⟩ = some (.int .i64 A) ∧ w.cell? ⟨g, q * 4 + 1, none⟩ = some (.int .i64 B) ∧ w.cell? ⟨g, q * 4 + 2, none⟩ = some (.int .i64 C) ∧ w.cell? ⟨g, q * 4 + 3, none⟩ = some (.int .i64 D) ∧ A < B ∧ B < n ∧ C < D ∧ D < W := by
  obtain ⟨A, B', C, D, p1, p2, p3, p4, p5⟩ := hg.2 q hq
  have hl := hg.1
  have cell : ∀ j, j < c * 4 → w.cell? ⟨g, j, none⟩ = some (.int .i64 (L.getD j 0)) := fun j hj => by
    rw [World.ownsRow.cellAt h j (by omega), List.getElem?_map, List.getElem?_eq_getElem (by omega), getD_elem (by omega)]; rfl
  exact ⟨A, B', C, D, by rw [cell _ (by omega), p1], by rw [cell _ (by omega), p2], by rw [cell _ (by omega), p3], by rw [cell _ (by omega), p4], p5⟩

set_option maxHeartbeats 2000000 in
set_option maxRecDepth 100000 in
theorem oth_any (r : Nat) (a : Option Addr) (len cap : Nat) (zs : List Int) (p : Nat) (W : Int) (s : Option Addr) (n cg : Nat) (xs : List Int) (w : World) (h : Rd w r a len cap zs p) (hp : p ≤ 800) (hR : Row w s n xs) (hn : n ≤ 6) (hs : ∀ b off, s = some ⟨b, off, none⟩ → 0 < n → b ≠ r) :
    Calls Try.prog 91 #[.pointer (some ⟨r, 0, none⟩), .agg #[.int .i64 W, .slice s n cg]] w (OthD w r a len cap zs p W s n) := by
  have hrw : r < w.heap.size := block_lt h.c0
  obtain ⟨W0, hW0⟩ : ∃ W0, W0 = (w.alloc (.cells #[.int .i64 W, .slice s n cg] 25)).alloc (.cells #[.int .i64 0, .slice none 0 0] 25) := ⟨_, rfl⟩
  have bb : Below w.heap.size w W0 := by subst hW0; exact ((Below.refl _ _).alloc (Nat.le_refl _) _).alloc (by simp) _
  have hO : OS w W0 r a len cap zs p W s n cg xs :=
    ⟨by subst hW0; exact ⟨by go_simp, by go_simp, fun o => by go_simp⟩, by subst hW0; exact ⟨by go_simp, by go_simp, fun o => by go_simp⟩, hR.bel bb, h.bel bb, below_grown bb _, hrw, h.src, fun b off e hl => by
      have h1 := row_lt hR b off e hl
      have h2 := hs b off e hl
      omega⟩
  replace hO := Lib.hid hO
  clear bb h hR
  go_enter Try.func91, Try.ntmps91
  go_wp2_with fail
  rw [← hW0]
  clear hW0
  refine (pick_any r a len cap zs p 6 _ hO.out.rd (by omega) (by omega)).mono ?_
  rintro e w1 ⟨v, rfl, hv0, hv1, hr, hg⟩
  replace hO := Lib.hid (hO.out.pick hr hg)
  clear hr hg
  obtain ⟨m, rfl⟩ := Int.eq_ofNat_of_zero_le hv0
  go_wp2_with fail
  go_loopw [6] (fun i wr => ∃ (k : Nat) (t : Option Addr) (c : Nat) (ys : List Int) (q : Nat), k ≤ m ∧ i = .int .i64 k ∧ q ≤ p + 1 + k ∧ Hid (OS w wr r a len cap zs q W t n c ys) ∧ Hid (∀ b off, t = some ⟨b, off, none⟩ → 0 < n → t = s ∨ w.heap.size ≤ b)) (fun i _ => m - (intOf i).toNat)
  case atStart => exact ⟨0, s, cg, xs, p + 1, Nat.zero_le _, rfl, by omega, hO, fun _ _ _ _ => .inl rfl⟩
  case round =>
    obtain ⟨k, t, c, ys, q, hk, rfl, hq, hQ, ht⟩ := hrel
    clear hO
    have x0 := hQ.out.ib.c0
    have x1 := hQ.out.ib.c1
    have zr : w.heap.size + 1 < wr.heap.size := block_lt hQ.out.zb.c0
    by_cases hlt : k < m
    · go_wp2_with fail
      by_cases hv : validB W ys = true
      case neg =>
        have hv : validB W ys = false := by simpa using hv
        refine (list_no W t n c ys _ hQ.out.row hn hv).mono ?_
        rintro e w2 ⟨⟨g, rfl⟩, hb⟩
        replace hQ := Lib.hid (hQ.out.bel hb)
        clear hb
        go_wp2_with fail
        exact ⟨⟨k + 1, t, c, ys, q, by omega, by go_num, by omega, hQ, ht⟩, by simp [intOf]; omega⟩
      have hW := validB_W hv
      obtain ⟨W, rfl⟩ := Int.eq_ofNat_of_zero_le (by omega : 0 ≤ W)
      have hI : Im W n ys := Im.of hv hQ.out.row.1
      refine (list_any W t n c ys _ hQ.out.row hI).mono ?_
      rintro e w2 ⟨v, c2, L, rfl, hc2, hown, hgood, hb⟩
      replace hI := Lib.hid hI
      replace hQ := Lib.hid (hQ.out.bel hb)
      have z2 : w.heap.size + 1 < w2.heap.size := block_lt hQ.out.zb.c0
      clear hb x0 x1
      by_cases h0 : c2 = 0
      · subst h0
        rcases hown.2 with ⟨rfl, _⟩ | ⟨g, c3, cur, rfl, _⟩
        · clear hown hgood
          go_wp2_with fail
          exact ⟨⟨k + 1, t, c, ys, q, by omega, by go_num, by omega, hQ, ht⟩, by simp [intOf]; omega⟩
        · clear hown hgood
          go_wp2_with fail
          exact ⟨⟨k + 1, t, c, ys, q, by omega, by go_num, by omega, hQ, ht⟩, by simp [intOf]; omega⟩
      obtain ⟨g, c3, rfl, hgw⟩ : ∃ g c3, v = .slice (some ⟨g, 0, none⟩) c2 c3 ∧ wr.heap.size ≤ g := by
        rcases hown.2 with ⟨_, h⟩ | ⟨g, c3, cur, h, h2, _⟩
        · omega
        · exact ⟨g, c3, h, h2⟩
      have hD := Lib.hid (hQ.out.bel ((Below.refl _ _).drew))
      have hLd := Lib.hid (World.ownsRow.kept hown (below_grown ((Below.refl w2.heap.size w2).drew) none) (.inr (by simp [Value.ownBlock])))
      have hgood := Lib.hid hgood
      have x0 := hQ.out.ib.c0
      have x1 := hQ.out.ib.c1
      clear hown
      go_wp2_with fail
      go_region_law (first | ((go_simp; go_at_call 83; (with_reducible refine (pick_any r a len cap zs q c2 _ hD.out.rd (by omega) (by omega)).mono ?_); rintro e w3 ⟨v3, rfl, hv30, hv31, hr3, hg3⟩; obtain ⟨q3, rfl⟩ := Int.eq_ofNat_of_zero_le hv30; have hO3 := Lib.hid (hD.out.pick hr3 hg3); have hL3 := World.ownsRow.kept hLd.out hg3 (.inr (by simp [Value.ownBlock]; omega)); have hq3 : q3 < c2 := (by omega); obtain ⟨A, B, C, D, s0, s1, s2, s3, i1, i2, i3, i4⟩ := sw_cells hL3 hgood.out hq3; have x0 := hO3.out.ib.c0; have x1 := hO3.out.ib.c1; have sz3 : w2.heap.size ≤ w3.heap.size := hg3.size; clear hr3 hg3 hL3 hLd)) | ((go_simp; go_at_call 70; (with_reducible refine (do_any W t n c ys A B C D _ hO3.out.row hI.out i1 i2 i3 i4).mono ?_); rintro e w4 ⟨t4, c4, ys4, rfl, ho4, hI4, hb4⟩; have hO4 := Lib.hid (hO3.out.bel hb4); have rg4 := rng_own ho4; have hR4 := Lib.hid ho4.row; have x0 := hO4.out.ib.c0; have x1 := hO4.out.ib.c1; have xf := hO4.out.ib.fz; clear hb4 ho4 hI4)))
      all_goals
        go_wp2_with fail
        refine ⟨⟨k + 1, t4, c4, ys4, q + 1, by omega, by go_num, by omega, hO4.out.put hR4.out (fun b off e _ => ?_), fun b off e _ => .inr ?_⟩, by simp [intOf]; omega⟩
        · have := (rg4 _ e).1; simp at this; omega
        · have := (rg4 _ e).1; simp at this; omega
    · have : k = m := by omega
      subst this
      have z0 := hQ.out.zb.c0
      have z1 := hQ.out.zb.c1
      have zf := hQ.out.zb.fz
      go_wp2_with fail
      refine bodyPost_ret (v := .agg #[.int .i64 W, .slice t n c]) (by simp [results, Try.results91, go_sem, z0, z1]) rfl ?_
      have hg := set2_grown wr (w.heap.size + 1) (.int .i64 W) (.slice t n c)
      exact ⟨t, c, ys, q, rfl, set2_row hQ.out.row (fun b off e hl => (hQ.out.sr b off e hl).2.2), grown_then hQ.out.gr (set2_bel (Below.refl _ _) (by omega)), hQ.out.rd.apart hg (by omega) (fun b off e hl => by have := hQ.out.far b off e hl; omega), by omega, ht.out⟩
end Go.Proofs.Ytgamkmkpmcenpaa

namespace Go.Proofs.Ytgamkmkpmcenpaa
set_option maxRecDepth 100000
open Go.RowKit

/-- The middle of l91Two: two boxes for what is returned, the first image's box and rows, the reader. -/
structure TSn (w wr : World) (r : Nat) (a : Option Addr) (len cap : Nat) (zs : List Int) (p k : Nat) (V : Int) (s : Option Addr) (n cg : Nat) (xs : List Int) : Prop where
  z4 : Box wr w.heap.size (.int .i64 0) (.slice none 0 0)
  z5 : Box wr (w.heap.size + 1) (.int .i64 0) (.slice none 0 0)
  ib : Box wr k (.int .i64 V) (.slice s n cg)
  row : Row wr s n xs
  rd : Rd wr r a len cap zs p
  gr : w.grownBy wr (some r)
  hr : r < w.heap.size
  hk : w.heap.size + 1 < k
  far : ∀ b off, a = some ⟨b, off, none⟩ → 0 < len → b < w.heap.size
  sr : ∀ b off, s = some ⟨b, off, none⟩ → 0 < n → w.heap.size + 1 < b
theorem TSn.pick {w wr w1 : World} {r : Nat} {a : Option Addr} {len cap : Nat} {zs : List Int} {p p' k : Nat} {V : Int} {s : Option Addr} {n cg : Nat} {xs : List Int} (h : TSn w wr r a len cap zs p k V s n cg xs) (hr : Rd w1 r a len cap zs p') (hg : wr.grownBy w1 (some r)) : TSn w w1 r a len cap zs p' k V s n cg xs := by
  have n1 := h.hr
  have n2 := h.hk
  exact ⟨h.z4.grown hg (by omega), h.z5.grown hg (by omega), h.ib.grown hg (by omega), h.row.apart hg (fun b off e hl => by have := h.sr b off e hl; simp; omega), hr, grown_trans h.gr hg, h.hr, h.hk, h.far, h.sr⟩
theorem TSn.bel {w wr w1 : World} {r : Nat} {a : Option Addr} {len cap : Nat} {zs : List Int} {p k : Nat} {V : Int} {s : Option Addr} {n cg : Nat} {xs : List Int} (h : TSn w wr r a len cap zs p k V s n cg xs) (hb : Below wr.heap.size wr w1) : TSn w w1 r a len cap zs p k V s n cg xs :=
  h.pick (h.rd.bel hb) (below_grown hb _)
theorem TSn.other {w wr w1 : World} {r g : Nat} {a : Option Addr} {len cap : Nat} {zs : List Int} {p k : Nat} {V : Int} {s : Option Addr} {n cg : Nat} {xs : List Int} (h : TSn w wr r a len cap zs p k V s n cg xs) (hg : wr.grownBy w1 (some g)) (h1 : w.heap.size + 1 < g) (h2 : g ≠ k) (h3 : ∀ b off, s = some ⟨b, off, none⟩ → 0 < n → b ≠ g) : TSn w w1 r a len cap zs p k V s n cg xs := by
  have n1 := h.hr
  have n3 := h.gr.size
  exact ⟨h.z4.grown hg (by omega), h.z5.grown hg (by omega), h.ib.grown hg (by omega), h.row.apart hg (fun b off e hl => by have := h3 b off e hl; simpa using this), h.rd.apart hg (by omega) (fun b off e hl => by have := h.far b off e hl; omega), grown_then h.gr ((grown_below hg).mono (by omega)), h.hr, h.hk, h.far, h.sr⟩
/-- What l91Two leaves. -/
def TwoD (w : World) (r : Nat) (a : Option Addr) (len cap : Nat) (zs : List Int) (p : Nat) (e : Ending) (w' : World) : Prop :=
  ∃ (V : Int) (s : Option Addr) (n c : Nat) (xs : List Int) (V' : Int) (t : Option Addr) (m c' : Nat) (ys : List Int) (p' : Nat), e = .returned (.tuple #[.agg #[.int .i64 V, .slice s n c], .agg #[.int .i64 V', .slice t m c']]) ∧ Row w' s n xs ∧ Row w' t m ys ∧ (n ≤ 6 ∧ m ≤ 6) ∧ w.grownBy w' (some r) ∧ Rd w' r a len cap zs p' ∧ p' ≤ p + 60 ∧ (∀ b off, s = some ⟨b, off, none⟩ → 0 < n → w.heap.size ≤ b) ∧ (∀ b off, t = some ⟨b, off, none⟩ → 0 < m → w.heap.size ≤ b)
theorem TSn.fin {w wr : World} {r : Nat} {a : Option Addr} {len cap : Nat} {zs : List Int} {p p' k : Nat} {V V' : Int} {s t : Option Addr} {n cg m c : Nat} {xs ys : List Int} (h : TSn w wr r a len cap zs p k V s n cg xs) (hT : Row wr t m ys) (ht : ∀ b off, t = some ⟨b, off, none⟩ → 0 < m → w.heap.size + 1 < b) (hn : n ≤ 6) (hm : m ≤ 6) (hp : p ≤ p' + 60) :
    TwoD w r a len cap zs p' (.returned (.tuple #[.agg #[.int .i64 V, .slice s n cg], .agg #[.int .i64 V', .slice t m c]])) ((((wr.setCell ⟨w.heap.size, 0, none⟩ (.int .i64 V)).setCell ⟨w.heap.size, 1, none⟩ (.slice s n cg)).setCell ⟨w.heap.size + 1, 0, none⟩ (.int .i64 V')).setCell ⟨w.heap.size + 1, 1, none⟩ (.slice t m c)) := by
  have n1 := h.hr
  refine ⟨V, s, n, cg, xs, V', t, m, c, ys, p, rfl, ?_, ?_, ⟨hn, hm⟩, ?_, ?_, hp, fun b off e hl => by have := h.sr b off e hl; omega, fun b off e hl => by have := ht b off e hl; omega⟩
  · exact set2_row (set2_row h.row fun b off e hl => by have := h.sr b off e hl; omega) fun b off e hl => by have := h.sr b off e hl; omega
  · exact set2_row (set2_row hT fun b off e hl => by have := ht b off e hl; omega) fun b off e hl => by have := ht b off e hl; omega
  · exact grown_then h.gr (set2_bel (set2_bel (Below.refl _ _) (Nat.le_refl _)) (by omega))
  · exact (h.rd.apart (set2_grown _ _ _ _) (by omega) (fun b off e hl => by have := h.far b off e hl; omega)).apart (set2_grown _ _ _ _) (by omega) (fun b off e hl => by have := h.far b off e hl; omega)

set_option maxHeartbeats 2000000 in
set_option maxRecDepth 100000 in
theorem two_any (r : Nat) (a : Option Addr) (len cap : Nat) (zs : List Int) (p : Nat) (w : World) (h : Rd w r a len cap zs p) (hp : p ≤ 500) :
    Calls Try.prog 54 #[.pointer (some ⟨r, 0, none⟩), .int .i64 36] w (TwoD w r a len cap zs p) := by
  have hrw : r < w.heap.size := block_lt h.c0
  have far := Lib.hid h.src
  obtain ⟨W0, hW0⟩ : ∃ W0, W0 = (w.alloc (.cells #[.int .i64 0, .slice none 0 0] 25)).alloc (.cells #[.int .i64 0, .slice none 0 0] 25) := ⟨_, rfl⟩
  have b0 : Below w.heap.size w W0 := by subst hW0; exact ((Below.refl _ _).alloc (Nat.le_refl _) _).alloc (by simp) _
  have z4 : Box W0 w.heap.size (.int .i64 0) (.slice none 0 0) := by subst hW0; exact ⟨by go_simp, by go_simp, fun o => by go_simp⟩
  have z5 : Box W0 (w.heap.size + 1) (.int .i64 0) (.slice none 0 0) := by subst hW0; exact ⟨by go_simp, by go_simp, fun o => by go_simp⟩
  have l0 : w.heap.size + 1 < W0.heap.size := block_lt z5.c0
  have hr0 := h.bel b0
  clear h
  go_enter Try.func54, Try.ntmps54
  go_wp2_with fail
  rw [← hW0]
  clear hW0
  refine (wrong_any r a len cap zs p _ hr0 (by omega)).mono ?_
  rintro e w1 ⟨V, s, n, cg, xs, rfl, hR, hn, hg, hf, q, hq, hrd⟩
  have s1 := hg.size
  have ba : Below w1.heap.size w1 (w1.alloc (.cells #[.int .i64 V, .slice s n cg] 25)) := (Below.refl _ _).alloc (Nat.le_refl _) _
  have hT : TSn w (w1.alloc (.cells #[.int .i64 V, .slice s n cg] 25)) r a len cap zs q w1.heap.size V s n cg xs :=
    ⟨(z4.grown hg (by omega)).bel ba, (z5.grown hg (by omega)).bel ba, ⟨by simp, by simp, fun o => by simp⟩, hR.row.bel ba, hrd.bel ba, grown_trans (grown_trans (below_grown b0 _) hg) (below_grown ba _), hrw, by omega, far.out, fun b off e hl => by have := hf b off e hl; omega⟩
  have hT := Lib.hid hT
  clear z4 z5 hR hg hf hrd ba b0 hr0
  go_wp2_with fail
  refine (pick_any r a len cap zs q 5 _ hT.out.rd (by omega) (by omega)).mono ?_
  rintro e w2 ⟨v, rfl, hv0, hv1, hr, hg⟩
  replace hT := Lib.hid (hT.out.pick hr hg)
  clear hr hg
  have y0 := hT.out.ib.c0
  have y1 := hT.out.ib.c1
  by_cases e0 : 0 < v
  · have hD := Lib.hid (hT.out.bel ((Below.refl _ _).drew))
    have s2 : w1.heap.size < w2.heap.size := block_lt y0
    go_wp2_with fail
    go_region_law (first | ((go_simp; go_at_call 91; (with_reducible refine (oth_any r a len cap zs (q + 1) V s n cg xs _ hD.out.rd (by omega) hD.out.row hn.1 (fun b off e hl => by have := hD.out.sr b off e hl; omega)).mono ?_); rintro e w3 ⟨t, c, ys, p', rfl, hY, hg, hrd, hp', ht⟩; have hO := Lib.hid (hD.out.pick hrd hg); have y0 := hO.out.ib.c0; have y1 := hO.out.ib.c1; have a0 := hO.out.z4.c0; have a1 := hO.out.z4.c1; have af := hO.out.z4.fz; have c0 := hO.out.z5.c0; have c1 := hO.out.z5.c1; have cf := hO.out.z5.fz; have hY := Lib.hid hY; clear hg hrd)))
    all_goals
      go_wp2_with fail
      refine bodyPost_ret (v := .tuple #[.agg #[.int .i64 V, .slice s n cg], .agg #[.int .i64 V, .slice t n c]]) (by simp [results, Try.results54, go_sem, a0, a1, c0, c1]) rfl ?_
      exact hO.out.fin hY.out (fun b off e hl => by
        rcases ht b off e hl with h | h
        · rw [h] at e; exact hO.out.sr b off e hl
        · have : w2.heap.size ≤ b := h
          omega) hn.1 hn.1 (by omega)
  · go_wp2_with fail
    refine (pick_any r a len cap zs _ 2 _ hT.out.rd (by omega) (by omega)).mono ?_
    rintro e w3 ⟨v2, rfl, hu0, hu1, hr, hg⟩
    replace hT := Lib.hid (hT.out.pick hr hg)
    clear hr hg y0 y1
    by_cases e1 : v2 = 0
    case neg =>
      have hD := Lib.hid (hT.out.bel ((Below.refl _ _).drew))
      have y0 := hT.out.ib.c0
      have y1 := hT.out.ib.c1
      have sX : w1.heap.size < w3.heap.size := block_lt y0
      go_wp2_with fail
      go_region_law (first | ((go_simp; go_at_call 82; (with_reducible refine (wrong_any r a len cap zs (q + 1 + 1) _ hD.out.rd (by omega)).mono ?_); rintro e w9 ⟨V', t, m, c', ys, rfl, hY, hm, hg, hf, q', hq', hrd⟩; have hO := Lib.hid (hD.out.pick hrd hg); have y0 := hO.out.ib.c0; have y1 := hO.out.ib.c1; have a0 := hO.out.z4.c0; have a1 := hO.out.z4.c1; have af := hO.out.z4.fz; have c0 := hO.out.z5.c0; have c1 := hO.out.z5.c1; have cf := hO.out.z5.fz; have hY := Lib.hid hY.row; clear hg hrd)))
      all_goals
        go_wp2_with fail
        refine bodyPost_ret (v := .tuple #[.agg #[.int .i64 V, .slice s n cg], .agg #[.int .i64 V', .slice t m c']]) (by simp [results, Try.results54, go_sem, a0, a1, c0, c1]) rfl ?_
        exact hO.out.fin hY.out (fun b off e hl => by
          have : w3.heap.size ≤ b := hf b off e hl
          omega) hn.1 hm.1 (by omega)
    subst e1
    have y0 := hT.out.ib.c0
    have y1 := hT.out.ib.c1
    go_wp2_with fail
    refine (valid_spec _ _ _ _ xs _ hT.out.row (by omega)).mono ?_
    rintro e w4 ⟨rfl, hb⟩
    replace hT := Lib.hid (hT.out.bel hb)
    clear hb y0 y1
    by_cases hv : validB V xs = true
    case neg =>
      have hv : validB V xs = false := by simpa using hv
      rw [hv]
      have hD := Lib.hid (hT.out.bel ((Below.refl _ _).drew))
      have y0 := hT.out.ib.c0
      have y1 := hT.out.ib.c1
      have sX : w1.heap.size < w4.heap.size := block_lt y0
      go_wp2_with fail
      go_region_law (first | ((go_simp; go_at_call 82; (with_reducible refine (wrong_any r a len cap zs (q + 1 + 1) _ hD.out.rd (by omega)).mono ?_); rintro e w9 ⟨V', t, m, c', ys, rfl, hY, hm, hg, hf, q', hq', hrd⟩; have hO := Lib.hid (hD.out.pick hrd hg); have y0 := hO.out.ib.c0; have y1 := hO.out.ib.c1; have a0 := hO.out.z4.c0; have a1 := hO.out.z4.c1; have af := hO.out.z4.fz; have c0 := hO.out.z5.c0; have c1 := hO.out.z5.c1; have cf := hO.out.z5.fz; have hY := Lib.hid hY.row; clear hg hrd)))
      all_goals
        go_wp2_with fail
        refine bodyPost_ret (v := .tuple #[.agg #[.int .i64 V, .slice s n cg], .agg #[.int .i64 V', .slice t m c']]) (by simp [results, Try.results54, go_sem, a0, a1, c0, c1]) rfl ?_
        exact hO.out.fin hY.out (fun b off e hl => by
          have : w4.heap.size ≤ b := hf b off e hl
          omega) hn.1 hm.1 (by omega)
    rw [hv]
    have hV := validB_W hv
    obtain ⟨W, rfl⟩ := Int.eq_ofNat_of_zero_le (by omega : 0 ≤ V)
    have hp6 := pw_63 (show W ≤ 6 by omega)
    have hpp := pw_pos W
    clear hv
    have y0 := hT.out.ib.c0
    have y1 := hT.out.ib.c1
    have s4 : w1.heap.size < w4.heap.size := block_lt y0
    have hsl := Lib.hid (row_lt hT.out.row)
    go_wp2_with fail
    refine (blank_spec W n _ (by omega)).mono ?_
    rintro e w5 ⟨⟨g, rfl, hg4, ho⟩, hb⟩
    have s5 := hb.size
    have hg5 := (own_ge ho).2
    have ba : Below w5.heap.size w5 (w5.alloc (.cells #[.int .i64 W, .slice (some ⟨g, 0, none⟩) n n] 25)) := (Below.refl _ _).alloc (Nat.le_refl _) _
    replace hT := Lib.hid ((hT.out.bel hb).bel ba)
    have ib2 : Hid (Box (w5.alloc (.cells #[.int .i64 W, .slice (some ⟨g, 0, none⟩) n n] 25)) w5.heap.size (.int .i64 W) (.slice (some ⟨g, 0, none⟩) n n)) := ⟨by simp, by simp, fun o => by simp⟩
    replace ho := Lib.hid (ho.bel ba)
    clear hb ba y0 y1
    go_wp2_with fail
    go_loopw [8] (fun i wr => ∃ (k q' : Nat) (ys : List Int), k ≤ n ∧ i = .int .i64 k ∧ q' ≤ q + 2 + k ∧ Hid (TSn w wr r a len cap zs q' w1.heap.size W s n cg xs) ∧ Hid (Box wr w5.heap.size (.int .i64 W) (.slice (some ⟨g, 0, none⟩) n n)) ∧ Hid (OwnI wr w4.heap.size (some ⟨g, 0, none⟩) n n ys)) (fun i _ => n - (intOf i).toNat)
    case atStart => exact ⟨0, q + 1 + 1, _, Nat.zero_le _, rfl, by omega, hT, ib2, ho⟩
    case round =>
      obtain ⟨k, q', ys, hk, rfl, hq', hT2, hB2, hO2⟩ := hrel
      clear hT ib2 ho
      have y0 := hT2.out.ib.c0
      have y1 := hT2.out.ib.c1
      have u0 := hB2.out.c0
      have u1 := hB2.out.c1
      by_cases hlt : k < n
      · have hD := Lib.hid (hT2.out.bel ((Below.refl _ _).drew))
        have hBD := Lib.hid (hB2.out.bel ((Below.refl _ _).drew))
        have hOD := Lib.hid (hO2.out.bel ((Below.refl _ _).drew))
        go_wp2_with fail
        go_region_law (first | ((go_simp; go_at_call 93; (with_reducible refine (power_any W _ (by omega)).mono ?_); rintro e w6 ⟨rfl, rfl⟩)) | ((go_simp; go_at_call 83; (with_reducible refine (pick_any r a len cap zs q' (pw W) _ hD.out.rd (by omega) (by omega)).mono ?_); rintro e w7 ⟨vv, rfl, hvv0, hvv1, hr, hg⟩; have hT3 := Lib.hid (hD.out.pick hr hg); have hB3 := Lib.hid (hBD.out.grown hg (by omega)); have hO3 := Lib.hid (hOD.out.other hg (by omega)); have y0 := hT3.out.ib.c0; have y1 := hT3.out.ib.c1; have u0 := hB3.out.c0; have u1 := hB3.out.c1; have cc := own_cell hO3.out hlt; have cf := hO3.out.frozen; clear hr hg)))
        all_goals
          go_wp2_with fail
          exact ⟨⟨k + 1, q' + 1, _, by omega, by go_num, by omega, hT3.out.other (grown_set (World.grownBy.refl _ _)) (by omega) (by omega) (fun b off e hl => by have := hsl.out b off e hl; omega), hB3.out.store (by omega), hO3.out.set k vv⟩, by simp [intOf]; omega⟩
      · have : k = n := by omega
        subst this
        have a0 := hT2.out.z4.c0
        have a1 := hT2.out.z4.c1
        have af := hT2.out.z4.fz
        have c0 := hT2.out.z5.c0
        have c1 := hT2.out.z5.c1
        have cf := hT2.out.z5.fz
        go_wp2_with fail
        go_region
        all_goals
          go_wp2_with fail
          refine bodyPost_ret (v := .tuple #[.agg #[.int .i64 W, .slice s k cg], .agg #[.int .i64 W, .slice (some ⟨g, 0, none⟩) k k]]) (by simp [results, Try.results54, go_sem, a0, a1, c0, c1]) rfl ?_
          exact (hT2.out.bel ((Below.refl _ _).drew)).fin (hO2.out.bel ((Below.refl _ _).drew)).row (fun b off e hl => by
            have := own_far hO2.out (show w.heap.size + 1 < w4.heap.size by omega) b off e hl
            cases e
            omega) hn.1 hn.1 (by omega)
end Go.Proofs.Ytgamkmkpmcenpaa

namespace Go.Proofs.Ytgamkmkpmcenpaa
set_option maxRecDepth 100000
open Go.RowKit

theorem same_parts {V W : Int} {xs ys : List Int} (h : sameB V xs W ys = true) : validB V xs = true ∧ validB W ys = true ∧ rsOut V xs = rsOut W ys ∧ csOut V xs = csOut W ys := by
  have h' := h
  rw [← same_flip] at h'
  unfold sameB fitB at h
  unfold fitB at h'
  simp only [Bool.and_eq_true, decide_eq_true_eq] at h h'
  exact ⟨h'.2.1, h.1, h.2.1.symm, h.2.2.symm⟩
/-- What a function that draws two images leaves. -/
def DrawnT (w : World) (e : Ending) (w' : World) : Prop :=
  ∃ (V : Int) (s : Option Addr) (n c : Nat) (xs : List Int) (V' : Int) (t : Option Addr) (m c' : Nat) (ys : List Int), e = .returned (.tuple #[.agg #[.int .i64 V, .slice s n c], .agg #[.int .i64 V', .slice t m c']]) ∧ Row w' s n xs ∧ Row w' t m ys ∧ (n ≤ 6 ∧ m ≤ 6) ∧ Below w.heap.size w w'

set_option maxHeartbeats 400000 in
theorem draw_DrawSumsSame (a : Option Addr) (len cap : Nat) (zs : List Int) (w : World) (h : Bys w a len zs) (hl : len ≤ cap) (hm : cap ≤ 9223372036854775807) :
    Calls Try.prog 35 #[.slice a len cap] w (DrawnT w) := by
  obtain ⟨W0, hW0⟩ : ∃ W0, W0 = (w.alloc (.cells #[.int .i64 0, .slice none 0 0] 25)).alloc (.cells #[.int .i64 0, .slice none 0 0] 25) := ⟨_, rfl⟩
  have b0 : Below w.heap.size w W0 := by subst hW0; exact ((Below.refl _ _).alloc (Nat.le_refl _) _).alloc (by simp) _
  have z4 : Box W0 w.heap.size (.int .i64 0) (.slice none 0 0) := by subst hW0; exact ⟨by go_simp, by go_simp, fun o => by go_simp⟩
  have z5 : Box W0 (w.heap.size + 1) (.int .i64 0) (.slice none 0 0) := by subst hW0; exact ⟨by go_simp, by go_simp, fun o => by go_simp⟩
  have l0 : w.heap.size + 1 < W0.heap.size := block_lt z5.c0
  have h0 := h.bel b0
  clear h
  go_enter Try.func35, Try.ntmps35
  go_wp2_with fail
  rw [← hW0]
  clear hW0
  refine (open_any a len cap zs _ h0 hl hm).mono ?_
  rintro e w1 ⟨a1, l1, c1, rfl, hr, hb⟩
  have s1 := hb.size
  have bb := Lib.hid (b0.trans (hb.mono b0.size))
  have z4 := z4.bel hb
  have z5 := z5.bel hb
  clear hb h0 b0
  go_wp2_with fail
  refine (two_any _ a1 l1 c1 zs 0 w1 hr (by omega)).mono ?_
  rintro e w2 ⟨V, s, n, c, xs, V', t, m, c', ys, p', rfl, hX, hY, hnm, hg, _, _, hs, ht⟩
  have z4 := z4.grown hg (by omega)
  have z5 := z5.grown hg (by omega)
  have bb := Lib.hid (grown_cut bb.out hg (by omega) (by omega))
  have a0 := z4.c0
  have a1 := z4.c1
  have af := z4.fz
  have c0 := z5.c0
  have c1 := z5.c1
  have cf := z5.fz
  have hX := Lib.hid hX
  have hY := Lib.hid hY
  clear hg hr z4 z5
  go_wp2_with fail
  refine bodyPost_ret (v := .tuple #[.agg #[.int .i64 V, .slice s n c], .agg #[.int .i64 V', .slice t m c']]) (by simp [results, Try.results35, go_sem, a0, a1, c0, c1]) rfl ?_
  exact ⟨V, s, n, c, xs, V', t, m, c', ys, rfl, set2_row (set2_row hX.out fun b off e hl => by have := hs b off e hl; omega) fun b off e hl => by have := hs b off e hl; omega, set2_row (set2_row hY.out fun b off e hl => by have := ht b off e hl; omega) fun b off e hl => by have := ht b off e hl; omega, hnm, set2_bel (set2_bel bb.out (Nat.le_refl _)) (by omega)⟩
end Go.Proofs.Ytgamkmkpmcenpaa

namespace Go.Proofs.Ytgamkmkpmcenpaa
set_option maxRecDepth 100000
open Go.RowKit

theorem Im.same {W n : Nat} {xs ys : List Int} (h : Im W n xs) (k : Im W n ys) (hr : rsL xs W n = rsL ys W n) (hc : csL xs n W = csL ys n W) : sameB W xs W ys = true := by
  unfold sameB
  exact fitB_4 k.valid (decide_eq_true (by rw [k.rs, h.rs, hr])) (decide_eq_true (by rw [k.cs, h.cs, hc]))
theorem Im.same_turn {W n : Nat} {xs ys : List Int} (h : Im W n xs) (k : Im W n ys) (hr : rsL xs W n = rsL ys W n) (hc : csL xs n W = csL ys n W) : sameB n (turnL xs W n) n (turnL ys W n) = true :=
  h.turn.same k.turn (by rw [h.turn_rs, k.turn_rs, hc]) (by rw [h.turn_cs, k.turn_cs, hr])
theorem Im.same_mir {W n : Nat} {xs ys : List Int} (h : Im W n xs) (k : Im W n ys) (hr : rsL xs W n = rsL ys W n) (hc : csL xs n W = csL ys n W) : sameB W (mirL xs W n) W (mirL ys W n) = true :=
  h.mir.same k.mir (by rw [h.mir_rs, k.mir_rs, hr]) (lists_ext (n := W) (cs_len _ _ _) (cs_len _ _ _) fun j hj => by rw [h.mir_cs hj, k.mir_cs hj, hc])
theorem Im.same_oth {W n : Nat} {xs ys : List Int} (h : Im W n xs) (k : Im W n ys) (hr : rsL xs W n = rsL ys W n) (hc : csL xs n W = csL ys n W) : sameB W (othL xs W n) W (othL ys W n) = true :=
  h.oth.same k.oth (by rw [h.oth_rs, k.oth_rs, hr]) (by rw [h.oth_cs, k.oth_cs, hc])
end Go.Proofs.Ytgamkmkpmcenpaa
