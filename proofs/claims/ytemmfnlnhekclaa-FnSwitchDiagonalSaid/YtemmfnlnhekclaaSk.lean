/-
  The contracts of the model's functions that list switches and do them, as far as what is drawn needs them.
  The contracts of the laws' drawing function that draws two images with the same sums.
  The contract of l91Other: an image behind some switches.
  The contracts of l91Two and DrawSumsSame.
  The contract of DrawSumsSame.
  Plain facts on images with the same sums: turned, mirrored, other cells.
-/
import Derived.Test.YtemmfnlnhekclaaEp
import Derived.Test.YtemmfnlnhekclaaK
import Derived.Maps.AppendAt
import Derived.Deep.RegionLaw

namespace Go.Proofs.Ytemmfnlnhekclaa
set_option maxRecDepth 100000
open Go.RowKit

set_option maxHeartbeats 400000 in
theorem get_any (W : Nat) (a : Option Addr) (n cap : Nat) (xs : List Int) (i j : Nat) (w : World) (h : Row w a n xs) (hv : Im W n xs) (hi : i < n) (hj : j < W) :
    Calls Try.prog 68 #[.agg #[.int .i64 W, .slice a n cap], .int .i64 i, .int .i64 j] w fun e w' => e = .returned (.int .i64 (bitI (xs.getD i 0) j)) ∧ Below w.heap.size w w' := by
  have hr := hv.row i hi
  have hp := pw_63 hv.w6
  have hw6 := hv.w6
  obtain ⟨b, off, rfl, hc⟩ := row_at h hi
  generalize xs.getD i 0 = x at hc hr
  have hb : b < w.heap.size := block_lt hc
  clear h hv
  go_enter Try.func68, Try.ntmps68
  go_wp2_with fail
  refine (bit_any x j _ hr.1 (by omega) (by omega)).mono ?_
  rintro e w2 ⟨rfl, rfl⟩
  go_wp2_with fail
  go_ret
  exact ⟨rfl, (Below.refl _ _).alloc (Nat.le_refl _) _⟩

set_option maxHeartbeats 1000000 in
theorem ok_any (W : Nat) (a : Option Addr) (n cap : Nat) (xs : List Int) (A B C D : Nat) (w : World) (h : Row w a n xs) (hv : Im W n xs) (h1 : A < B) (h2 : B < n) (h3 : C < D) (h4 : D < W) :
    Calls Try.prog 92 #[.agg #[.int .i64 W, .slice a n cap], .agg #[.int .i64 A, .int .i64 B, .int .i64 C, .int .i64 D]] w fun e w' => (∃ b : Bool, e = .returned (.bool b)) ∧ Below w.heap.size w w' := by
  have hw6 := hv.w6
  have hn6 := hv.l6
  have e1 : inB (B : Int) 0 ((n : Int) - 1) = true := inB_yes (by omega) (by omega)
  have e2 : inB (D : Int) 0 ((W : Int) - 1) = true := inB_yes (by omega) (by omega)
  have e3 : inB (A : Int) 0 ((B : Int) - 1) = true := inB_yes (by omega) (by omega)
  have e4 : inB (C : Int) 0 ((D : Int) - 1) = true := inB_yes (by omega) (by omega)
  have b1 := bit_01 (xs.getD A 0) C
  have b2 := bit_01 (xs.getD B 0) D
  have b3 := bit_01 (xs.getD A 0) D
  have b4 := bit_01 (xs.getD B 0) C
  have g1 := Lib.hid (fun (s : Option Addr) (c : Nat) (wx : World) (h : Row wx s n xs) => get_any W s n c xs A C wx h hv (by omega) (by omega))
  have g2 := Lib.hid (fun (s : Option Addr) (c : Nat) (wx : World) (h : Row wx s n xs) => get_any W s n c xs B D wx h hv (by omega) (by omega))
  have g3 := Lib.hid (fun (s : Option Addr) (c : Nat) (wx : World) (h : Row wx s n xs) => get_any W s n c xs A D wx h hv (by omega) (by omega))
  have g4 := Lib.hid (fun (s : Option Addr) (c : Nat) (wx : World) (h : Row wx s n xs) => get_any W s n c xs B C wx h hv (by omega) (by omega))
  generalize bitI (xs.getD A 0) C = u1 at b1 g1
  generalize bitI (xs.getD B 0) D = u2 at b2 g2
  generalize bitI (xs.getD A 0) D = u3 at b3 g3
  generalize bitI (xs.getD B 0) C = u4 at b4 g4
  clear hv
  obtain ⟨W0, hW0⟩ : ∃ W0, W0 = (w.alloc (.cells #[.int .i64 W, .slice a n cap] 35)).alloc (.cells #[.int .i64 A, .int .i64 B, .int .i64 C, .int .i64 D] 48) := ⟨_, rfl⟩
  have bb : Below w.heap.size w W0 := by subst hW0; exact ((Below.refl _ _).alloc (Nat.le_refl _) _).alloc (by simp) _
  have x0 : W0.cell? ⟨w.heap.size, 0, none⟩ = some (.int .i64 W) := by subst hW0; go_simp
  have x1 : W0.cell? ⟨w.heap.size, 1, none⟩ = some (.slice a n cap) := by subst hW0; go_simp
  have s0 : W0.cell? ⟨w.heap.size + 1, 0, none⟩ = some (.int .i64 A) := by subst hW0; go_simp
  have s1 : W0.cell? ⟨w.heap.size + 1, 1, none⟩ = some (.int .i64 B) := by subst hW0; go_simp
  have s2 : W0.cell? ⟨w.heap.size + 1, 2, none⟩ = some (.int .i64 C) := by subst hW0; go_simp
  have s3 : W0.cell? ⟨w.heap.size + 1, 3, none⟩ = some (.int .i64 D) := by subst hW0; go_simp
  have r := Lib.hid (h.bel bb)
  have bb := Lib.hid bb
  clear h
  go_enter Try.func92, Try.ntmps92
  go_wp2_with fail
  rw [← hW0]
  clear hW0
  refine (in_any _ _ _ _).mono ?_
  rintro e w1 ⟨rfl, rfl⟩
  rw [e1]
  go_wp2_with fail
  refine (in_any _ _ _ _).mono ?_
  rintro e w1 ⟨rfl, rfl⟩
  rw [e2]
  go_wp2_with fail
  refine (in_any _ _ _ _).mono ?_
  rintro e w1 ⟨rfl, rfl⟩
  rw [e3]
  go_wp2_with fail
  refine (in_any _ _ _ _).mono ?_
  rintro e w1 ⟨rfl, rfl⟩
  rw [e4]
  go_wp2_with fail
  refine (g1.out _ _ _ r.out).mono ?_
  rintro e w1 ⟨rfl, hb⟩
  replace x0 := kept hb (block_lt x0) x0
  replace x1 := kept hb (block_lt x1) x1
  replace s0 := kept hb (block_lt s0) s0
  replace s1 := kept hb (block_lt s1) s1
  replace s2 := kept hb (block_lt s2) s2
  replace s3 := kept hb (block_lt s3) s3
  replace r := Lib.hid (r.out.bel hb)
  replace bb := Lib.hid (bb.out.trans (hb.mono bb.out.size))
  clear hb
  go_wp2_with fail
  refine (g2.out _ _ _ r.out).mono ?_
  rintro e w2 ⟨rfl, hb⟩
  replace x0 := kept hb (block_lt x0) x0
  replace x1 := kept hb (block_lt x1) x1
  replace s0 := kept hb (block_lt s0) s0
  replace s1 := kept hb (block_lt s1) s1
  replace s2 := kept hb (block_lt s2) s2
  replace s3 := kept hb (block_lt s3) s3
  replace r := Lib.hid (r.out.bel hb)
  replace bb := Lib.hid (bb.out.trans (hb.mono bb.out.size))
  clear hb
  by_cases q1 : u2 = u1
  case neg =>
    have q2 : (u2 == u1) = false := by rw [beq_eq_false_iff_ne]; exact q1
    go_wp2_with fail
    go_ret
    exact ⟨⟨_, rfl⟩, bb.out⟩
  subst q1
  go_wp2_with fail
  refine (g3.out _ _ _ r.out).mono ?_
  rintro e w3 ⟨rfl, hb⟩
  replace x0 := kept hb (block_lt x0) x0
  replace x1 := kept hb (block_lt x1) x1
  replace s0 := kept hb (block_lt s0) s0
  replace s1 := kept hb (block_lt s1) s1
  replace s2 := kept hb (block_lt s2) s2
  replace s3 := kept hb (block_lt s3) s3
  replace r := Lib.hid (r.out.bel hb)
  replace bb := Lib.hid (bb.out.trans (hb.mono bb.out.size))
  clear hb
  have wu : IntKind.i64.wrap (1 - u2) = 1 - u2 := IntWalk.i64_in _ ⟨by omega, by omega⟩
  by_cases q3 : u3 = 1 - u2
  case neg =>
    have q2 : (u3 == 1 - u2) = false := by rw [beq_eq_false_iff_ne]; exact q3
    go_wp2_with fail
    go_ret
    exact ⟨⟨_, rfl⟩, bb.out⟩
  subst q3
  go_wp2_with fail
  refine (g4.out _ _ _ r.out).mono ?_
  rintro e w4 ⟨rfl, hb⟩
  replace bb := Lib.hid (bb.out.trans (hb.mono bb.out.size))
  clear hb
  by_cases q5 : u4 = 1 - u2
  case neg =>
    have q2 : (u4 == 1 - u2) = false := by rw [beq_eq_false_iff_ne]; exact q5
    go_wp2_with fail
    go_ret
    exact ⟨⟨_, rfl⟩, bb.out⟩
  subst q5
  go_wp2_with fail
  go_ret
  exact ⟨⟨_, rfl⟩, bb.out⟩

theorem infoSw : (Try.prog.info? 48).map (fun i => (i.zero, i.size, i.bytes)) = some (some (.agg #[.int .i64 0, .int .i64 0, .int .i64 0, .int .i64 0]), 4, 32) := by kernel_rfl
/-- A list of places of switches in an image with n rows and W columns, four numbers each. -/
def Good (L : List Int) (c W n : Nat) : Prop := L.length = c * 4 ∧ ∀ j, j < c → ∃ A B C D : Nat, L.getD (j * 4) 0 = A ∧ L.getD (j * 4 + 1) 0 = B ∧ L.getD (j * 4 + 2) 0 = C ∧ L.getD (j * 4 + 3) 0 = D ∧ A < B ∧ B < n ∧ C < D ∧ D < W
theorem good_nil (W n : Nat) : Good [] 0 W n := ⟨rfl, fun _ hj => absurd hj (Nat.not_lt_zero _)⟩
theorem getD_left {xs ys : List Int} {i : Nat} (h : i < xs.length) : (xs ++ ys).getD i 0 = xs.getD i 0 := by
  rw [List.getD_eq_getElem?_getD, List.getElem?_append_left h, ← List.getD_eq_getElem?_getD]
theorem getD_right {xs ys : List Int} {i k : Nat} (h : i = xs.length + k) : (xs ++ ys).getD i 0 = ys.getD k 0 := by
  subst h
  rw [List.getD_eq_getElem?_getD, List.getElem?_append_right (by omega), ← List.getD_eq_getElem?_getD, show xs.length + k - xs.length = k by omega]
theorem good_snoc {L : List Int} {c W n A B C D : Nat} (h : Good L c W n) (h1 : A < B) (h2 : B < n) (h3 : C < D) (h4 : D < W) : Good (L ++ [(A : Int), (B : Int), (C : Int), (D : Int)]) (c + 1) W n := by
  have hl := h.1
  refine ⟨by rw [List.length_append, hl]; simp; omega, fun j hj => ?_⟩
  by_cases e : j = c
  · subst e
    exact ⟨A, B, C, D, by rw [getD_right (k := 0) (by omega)]; rfl, by rw [getD_right (k := 1) (by omega)]; rfl, by rw [getD_right (k := 2) (by omega)]; rfl, by rw [getD_right (k := 3) (by omega)]; rfl, h1, h2, h3, h4⟩
  · obtain ⟨a, b, c', d, p1, p2, p3, p4, p5⟩ := h.2 j (by omega)
    exact ⟨a, b, c', d, by rw [getD_left (by omega)]; exact p1, by rw [getD_left (by omega)]; exact p2, by rw [getD_left (by omega)]; exact p3, by rw [getD_left (by omega)]; exact p4, p5⟩
/-- The list so far, in the middle of SwitchList. -/
structure SL (w wr : World) (W n : Nat) (s : Option Addr) (cg : Nat) (m : Nat) (v : Value) : Prop where
  c0 : wr.cell? ⟨w.heap.size, 0, none⟩ = some (.int .i64 W)
  c1 : wr.cell? ⟨w.heap.size, 1, none⟩ = some (.slice s n cg)
  bel : Below w.heap.size w wr
  own : ∃ c L, c ≤ m ∧ wr.ownsRow (w.heap.size + 1) 48 4 v c (L.map (Value.int .i64)) ∧ Good L c W n
theorem SL.le {w wr : World} {W n : Nat} {s : Option Addr} {cg m m' : Nat} {v : Value} (h : SL w wr W n s cg m v) (hm : m ≤ m') : SL w wr W n s cg m' v := by
  obtain ⟨c, L, h1, h2⟩ := h.own
  exact ⟨h.c0, h.c1, h.bel, c, L, by omega, h2⟩
theorem SL.move {w wr w1 : World} {W n : Nat} {s : Option Addr} {cg m : Nat} {v : Value} (h : SL w wr W n s cg m v) (hb : Below wr.heap.size wr w1) : SL w w1 W n s cg m v := by
  obtain ⟨c, L, h1, h2, h3⟩ := h.own
  refine ⟨kept hb (block_lt h.c0) h.c0, kept hb (block_lt h.c1) h.c1, h.bel.trans (hb.mono h.bel.size), c, L, h1, ?_, h3⟩
  refine World.ownsRow.kept h2 (below_grown hb none) ?_
  rcases h2.2 with ⟨rfl, _⟩ | ⟨g, c, cur, rfl, _⟩
  · left; rfl
  · right; simp [Value.ownBlock]

theorem ownsRow_far {w : World} {B n size : Nat} {T : TypeId} {v : Value} {xs : List Value} (h : w.ownsRow B T size v n xs) : ∀ g, v.ownBlock = some g → B ≤ g := by
  intro g hg
  rcases h.2 with ⟨rfl, _⟩ | ⟨g', c, cur, rfl, h2, _⟩
  · cases hg
  · simp [Value.ownBlock] at hg; omega

/-- What SwitchList leaves. -/
def GivesS (w : World) (W n : Nat) (e : Ending) (w' : World) : Prop :=
  ∃ v c L, e = .returned v ∧ c ≤ 1600 ∧ w'.ownsRow w.heap.size 48 4 v c (L.map (Value.int .i64)) ∧ Good L c W n ∧ Below w.heap.size w w'

set_option maxHeartbeats 2000000 in
set_option maxRecDepth 100000 in
theorem list_any (W : Nat) (a : Option Addr) (n cap : Nat) (xs : List Int) (w : World) (h : Row w a n xs) (hv : Im W n xs) :
    Calls Try.prog 97 #[.agg #[.int .i64 W, .slice a n cap]] w (GivesS w W n) := by
  have hw6 := hv.w6
  have hn6 := hv.l6
  obtain ⟨i0, hi, hz0, hz1, hz2⟩ := info_parts infoSw
  obtain ⟨W0, hW0⟩ : ∃ W0, W0 = (w.alloc (.cells #[.int .i64 W, .slice a n cap] 35)).alloc (.cells #[] 48) := ⟨_, rfl⟩
  have hS : SL w W0 W n a cap 0 (.slice (some ⟨w.heap.size + 1, 0, none⟩) 0 0) := by
    subst hW0
    exact ⟨by go_simp, by go_simp, ((Below.refl _ _).alloc (Nat.le_refl _) _).alloc (by simp) _, 0, [], Nat.le_refl _, by
      have := World.ownsRow_lit (base := w.heap.size + 1) (e := 48) (size := 4) (w.alloc (.cells #[.int .i64 W, .slice a n cap] 35)) #[] 0 (by simp) (by decide) rfl
      simpa using this, good_nil _ _⟩
  have r := Lib.hid h
  have hok := Lib.hid (fun (A B C D : Nat) (s : Option Addr) (c : Nat) (wx : World) (h : Row wx s n xs) h1 h2 h3 h4 => ok_any W s n c xs A B C D wx h hv h1 h2 h3 h4)
  have hv := Lib.hid hv.valid
  replace hS := Lib.hid hS
  clear h
  have x0 := hS.out.c0
  have x1 := hS.out.c1
  go_enter Try.func97, Try.ntmps97
  go_wp2_with fail
  rw [← hW0]
  clear hW0
  refine (valid_spec _ _ _ _ xs _ (r.out.bel hS.out.bel) (by omega)).mono ?_
  rintro e w1 ⟨rfl, hb⟩
  rw [hv.out]
  replace hS := Lib.hid (hS.out.move hb)
  clear hb x0 x1
  go_wp2_with fail
  go_loopw [3, 4] (fun o i wr => ∃ k : Nat, k ≤ n ∧ i = .int .i64 k ∧ Hid (SL w wr W n a cap (216 * k) o)) (fun _ i _ => n - (intOf i).toNat)
  case atStart => exact ⟨0, Nat.zero_le _, rfl, hS⟩
  case round =>
    obtain ⟨i, hi1, rfl, hQ⟩ := hrel
    obtain ⟨wi, rfl⟩ : ∃ wi : World, wi = wr := ⟨_, rfl⟩
    clear hS
    have x0 := hQ.out.c0
    have x1 := hQ.out.c1
    by_cases hlt : i < n
    · go_wp2_with fail
      go_loopw [3, 5] (fun o q wr => ∃ k : Nat, i + 1 ≤ k ∧ k ≤ n ∧ q = .int .i64 k ∧ Hid (SL w wr W n a cap (216 * i + 36 * k) o)) (fun _ i _ => n - (intOf i).toNat)
      case atStart => exact ⟨i + 1, by omega, by omega, by simp, hQ.out.le (by omega)⟩
      case round =>
        obtain ⟨k, hk0, hk1, rfl, hQ2⟩ := hrel
        obtain ⟨wk, rfl⟩ : ∃ wk : World, wk = wr := ⟨_, rfl⟩
        clear hQ x0 x1
        have x0 := hQ2.out.c0
        have x1 := hQ2.out.c1
        by_cases hlk : k < n
        · go_wp2_with fail
          go_loopw [3, 6] (fun o q wr => ∃ j : Nat, j ≤ W ∧ q = .int .i64 j ∧ Hid (SL w wr W n a cap (216 * i + 36 * k + 6 * j) o)) (fun _ i _ => W - (intOf i).toNat)
          case atStart => exact ⟨0, by omega, rfl, hQ2.out.le (by omega)⟩
          case round =>
            obtain ⟨j, hj1, rfl, hQ3⟩ := hrel
            obtain ⟨wj, rfl⟩ : ∃ wj : World, wj = wr := ⟨_, rfl⟩
            clear hQ2 x0 x1
            have x0 := hQ3.out.c0
            have x1 := hQ3.out.c1
            by_cases hlj : j < W
            · go_wp2_with fail
              go_loopw [3, 7] (fun o q wr => ∃ l : Nat, j + 1 ≤ l ∧ l ≤ W ∧ q = .int .i64 l ∧ Hid (SL w wr W n a cap (216 * i + 36 * k + 6 * j + l) o)) (fun _ i _ => W - (intOf i).toNat)
              case atStart => exact ⟨j + 1, by omega, by omega, by simp, hQ3.out.le (by omega)⟩
              case round =>
                obtain ⟨l, hl0, hl1, rfl, hQ4⟩ := hrel
                obtain ⟨wl, rfl⟩ : ∃ wl : World, wl = wr := ⟨_, rfl⟩
                clear hQ3 x0 x1
                have x0 := hQ4.out.c0
                have x1 := hQ4.out.c1
                have lx : w.heap.size < wl.heap.size := block_lt x0
                by_cases hll : l < W
                · have hb : Below wl.heap.size wl (wl.alloc (.cells #[.int .i64 i, .int .i64 k, .int .i64 j, .int .i64 l] 48)) := (Below.refl _ _).alloc (Nat.le_refl _) _
                  have hQ5 := Lib.hid (hQ4.out.move hb)
                  clear hb
                  go_wp2_with fail
                  refine (hok.out i k j l _ _ _ (r.out.bel hQ5.out.bel) (by omega) (by omega) (by omega) (by omega)).mono ?_
                  rintro e w5 ⟨⟨b, rfl⟩, hb⟩
                  have s0 : w5.cell? ⟨wl.heap.size, 0, none⟩ = some (.int .i64 i) := kept hb (by simp) (by simp)
                  have s1 : w5.cell? ⟨wl.heap.size, 1, none⟩ = some (.int .i64 k) := kept hb (by simp) (by simp)
                  have s2 : w5.cell? ⟨wl.heap.size, 2, none⟩ = some (.int .i64 j) := kept hb (by simp) (by simp)
                  have s3 : w5.cell? ⟨wl.heap.size, 3, none⟩ = some (.int .i64 l) := kept hb (by simp) (by simp)
                  have hQ6 := Lib.hid (hQ5.out.move hb)
                  clear hb hQ4 hQ5 x0 x1
                  have x0 := hQ6.out.c0
                  have x1 := hQ6.out.c1
                  cases b with
                  | false =>
                    go_wp2_with fail
                    exact ⟨⟨l + 1, by omega, by omega, by go_num, hQ6.out.le (by omega)⟩, by simp [intOf]; omega⟩
                  | true =>
                    obtain ⟨c, L, hc, hown, hg⟩ := hQ6.out.own
                    have hg2 := Lib.hid (good_snoc hg (show i < k by omega) hlk (show j < l by omega) hll)
                    have l5 : w.heap.size < w5.heap.size := block_lt x0
                    go_wp2_with (at_builtin; refine wpList_append_own _ rfl _ _ 103 rfl (w.heap.size + 1) 48 i0 (.agg #[.int .i64 0, .int .i64 0, .int .i64 0, .int .i64 0]) 4 32 Try.underlying103 hi hz0 hz1 hz2 rfl (by decide) _ c (L.map (Value.int .i64)) rfl (World.ownsRow.alloc hown _) ⟨w5.heap.size, 0, none⟩ 1 1 [.int .i64 i, .int .i64 k, .int .i64 j, .int .i64 l] rfl rfl ?c1 ?c2 ?c3 ?c4 ?c5 ?_)
                    case c1 => intro j u hj; match j, hj with | 0, hj | 1, hj | 2, hj | 3, hj => simp at hj; subst hj; simp [Addr.add]
                    case c2 => intro u hu; simp at hu; rcases hu with rfl | rfl | rfl | rfl <;> rfl
                    case c3 => unfold maxLen; omega
                    case c4 => omega
                    case c5 => simp; omega
                    intro v' w6 hown1 hgr _
                    have hb3 : Below (w.heap.size + 1) w5 w6 := ((Below.refl _ _).alloc (by omega) _).grown hgr (by simp; omega) (ownsRow_far hown)
                    have hQ7 : Hid (SL w w6 W n a cap (216 * i + 36 * k + 6 * j + (l + 1)) v') :=
                      ⟨kept hb3 (by simp) x0, kept hb3 (by simp) x1, hQ6.out.bel.trans (hb3.mono (by omega)), c + 1, _, by omega, by rw [List.map_append]; exact hown1, hg2.out⟩
                    clear hown1 hgr hb3 hown hg hQ6
                    go_wp2_with fail
                    exact ⟨⟨l + 1, by omega, by omega, by go_num, hQ7⟩, by simp [intOf]; omega⟩
                · have : l = W := by omega
                  subst this
                  go_wp2_with fail
                  exact ⟨⟨j + 1, by omega, by go_num, hQ4.out.le (by omega)⟩, by simp [intOf]; omega⟩
            · have : j = W := by omega
              subst this
              go_wp2_with fail
              exact ⟨⟨k + 1, by omega, by omega, by go_num, hQ3.out.le (by omega)⟩, by simp [intOf]; omega⟩
        · have : k = n := by omega
          subst this
          go_wp2_with fail
          exact ⟨⟨i + 1, by omega, by go_num, hQ2.out.le (by omega)⟩, by simp [intOf]; omega⟩
    · have : i = n := by omega
      subst this
      obtain ⟨c, L, hc, hown, hg⟩ := hQ.out.own
      have hb := Lib.hid hQ.out.bel
      have hg := Lib.hid hg
      have hown := Lib.hid hown
      go_wp2_with fail
      go_ret
      refine ⟨_, c, L, rfl, by omega, ⟨hown.out.1, ?_⟩, hg.out, hb.out⟩
      rcases hown.out.2 with h | ⟨g, c', cur, e, hg, r⟩
      · exact .inl h
      · exact .inr ⟨g, c', cur, e, by omega, r⟩
end Go.Proofs.Ytemmfnlnhekclaa

namespace Go.Proofs.Ytemmfnlnhekclaa
set_option maxRecDepth 100000
open Go.RowKit

/-- What l11Do leaves. -/
def GivesM (w : World) (W n : Nat) (e : Ending) (w' : World) : Prop :=
  ∃ (a : Option Addr) (c : Nat) (ys : List Int), e = .returned (.agg #[.int .i64 W, .slice a n c]) ∧ OwnI w' w.heap.size a n c ys ∧ Im W n ys ∧ Below w.heap.size w w'

set_option maxHeartbeats 1000000 in
set_option maxRecDepth 100000 in
theorem do_any (W : Nat) (a : Option Addr) (n cap : Nat) (xs : List Int) (A B C D : Nat) (w : World) (h : Row w a n xs) (hv : Im W n xs) (h1 : A < B) (h2 : B < n) (h3 : C < D) (h4 : D < W) :
    Calls Try.prog 81 #[.agg #[.int .i64 W, .slice a n cap], .agg #[.int .i64 A, .int .i64 B, .int .i64 C, .int .i64 D]] w (GivesM w W n) := by
  have hw6 := hv.w6
  have hn6 := hv.l6
  obtain ⟨W0, hW0⟩ : ∃ W0, W0 = ((w.alloc (.cells #[.int .i64 W, .slice a n cap] 35)).alloc (.cells #[.int .i64 A, .int .i64 B, .int .i64 C, .int .i64 D] 48)).alloc (.cells #[.int .i64 0, .slice none 0 0] 35) := ⟨_, rfl⟩
  have bb : Below w.heap.size w W0 := by subst hW0; exact (((Below.refl _ _).alloc (Nat.le_refl _) _).alloc (by simp) _).alloc (by simp; omega) _
  have x0 : W0.cell? ⟨w.heap.size, 0, none⟩ = some (.int .i64 W) := by subst hW0; go_simp
  have x1 : W0.cell? ⟨w.heap.size, 1, none⟩ = some (.slice a n cap) := by subst hW0; go_simp
  have s0 : W0.cell? ⟨w.heap.size + 1, 0, none⟩ = some (.int .i64 A) := by subst hW0; go_simp
  have s1 : W0.cell? ⟨w.heap.size + 1, 1, none⟩ = some (.int .i64 B) := by subst hW0; go_simp
  have s2 : W0.cell? ⟨w.heap.size + 1, 2, none⟩ = some (.int .i64 C) := by subst hW0; go_simp
  have s3 : W0.cell? ⟨w.heap.size + 1, 3, none⟩ = some (.int .i64 D) := by subst hW0; go_simp
  have z0 : W0.cell? ⟨w.heap.size + 1 + 1, 0, none⟩ = some (.int .i64 0) := by subst hW0; go_simp
  have z1 : W0.cell? ⟨w.heap.size + 1 + 1, 1, none⟩ = some (.slice none 0 0) := by subst hW0; go_simp
  have zf : ∀ o, W0.frozen? ⟨w.heap.size + 1 + 1, o, none⟩ = false := fun o => by subst hW0; go_simp
  have l0 : w.heap.size + 1 + 1 < W0.heap.size := block_lt z0
  have r := Lib.hid (h.bel bb)
  have zb : Hid (Box W0 (w.heap.size + 1 + 1) (.int .i64 0) (.slice none 0 0)) := ⟨z0, z1, zf⟩
  have bb := Lib.hid bb
  clear z0 z1 zf
  obtain ⟨b, off, rfl, hcc⟩ := r.out.2.resolve_left (by omega)
  have hl := h.1
  clear h
  go_enter Try.func81, Try.ntmps81
  go_wp2_with fail
  rw [← hW0]
  clear hW0
  refine (copy_spec W b off n cap xs _ hl hcc (by omega) (by omega)).mono ?_
  rintro e w1 ⟨⟨ac, cc, rfl, ho⟩, hb⟩
  obtain ⟨g, rfl⟩ : ∃ g, ac = some ⟨g, 0, none⟩ := by
    rcases ho.cases with ⟨_, h, _⟩ | ⟨g, h, _⟩
    · omega
    · exact ⟨g, h⟩
  have hg := own_ge ho
  clear hcc
  have szw1 := hb.size
  replace x0 := kept hb (block_lt x0) x0
  replace x1 := kept hb (block_lt x1) x1
  replace s0 := kept hb (block_lt s0) s0
  replace s1 := kept hb (block_lt s1) s1
  replace s2 := kept hb (block_lt s2) s2
  replace s3 := kept hb (block_lt s3) s3
  replace r := Lib.hid (r.out.bel hb)
  replace bb := Lib.hid (bb.out.trans (hb.mono bb.out.size))
  replace zb := Lib.hid (zb.out.bel hb)
  clear hb
  have hbx : Below w1.heap.size w1 (w1.alloc (.cells #[.int .i64 W, .slice (some ⟨g, 0, none⟩) n cc] 35)) := (Below.refl _ _).alloc (Nat.le_refl _) _
  replace x0 := kept hbx (block_lt x0) x0
  replace x1 := kept hbx (block_lt x1) x1
  replace s0 := kept hbx (block_lt s0) s0
  replace s1 := kept hbx (block_lt s1) s1
  replace s2 := kept hbx (block_lt s2) s2
  replace s3 := kept hbx (block_lt s3) s3
  replace r := Lib.hid (r.out.bel hbx)
  replace bb := Lib.hid (bb.out.trans (hbx.mono bb.out.size))
  replace zb := Lib.hid (zb.out.bel hbx)
  have o0 : (w1.alloc (.cells #[.int .i64 W, .slice (some ⟨g, 0, none⟩) n cc] 35)).cell? ⟨w1.heap.size, 0, none⟩ = some (.int .i64 W) := by simp
  have o1 : (w1.alloc (.cells #[.int .i64 W, .slice (some ⟨g, 0, none⟩) n cc] 35)).cell? ⟨w1.heap.size, 1, none⟩ = some (.slice (some ⟨g, 0, none⟩) n cc) := by simp
  have o := Lib.hid (ho.bel hbx)
  have hI := Lib.hid hv
  clear hbx ho hv
  go_wp2_with fail
  refine (get_any W _ n cap xs A C _ r.out hI.out (by omega) (by omega)).mono ?_
  rintro e w2 ⟨rfl, hb⟩
  generalize bitI (xs.getD A 0) C = u
  replace x0 := kept hb (block_lt x0) x0
  replace x1 := kept hb (block_lt x1) x1
  replace s0 := kept hb (block_lt s0) s0
  replace s1 := kept hb (block_lt s1) s1
  replace s2 := kept hb (block_lt s2) s2
  replace s3 := kept hb (block_lt s3) s3
  replace o0 := kept hb (block_lt o0) o0
  replace o1 := kept hb (block_lt o1) o1
  replace r := Lib.hid (r.out.bel hb)
  replace o := Lib.hid (o.out.bel hb)
  replace bb := Lib.hid (bb.out.trans (hb.mono bb.out.size))
  replace zb := Lib.hid (zb.out.bel hb)
  have s2' : w1.heap.size < w2.heap.size := block_lt o0
  clear hb
  obtain ⟨S, hS⟩ : ∃ S, (u == 0) = S := ⟨_, rfl⟩
  obtain ⟨ys, hys⟩ : ∃ ys, ys = xs := ⟨_, rfl⟩
  rw [← hys] at o hI
  clear hys
  go_wp2_with fail
  have hr := hI.out.row A (by omega)
  have hp := pw_63 hw6
  refine (put_spec W _ g n cc ys A C (S) _ o.out (by omega) (by omega) hr.1 (by omega)).mono ?_
  rintro e w3 ⟨rfl, hg0, ho⟩
  have szw3 := hg0.size
  replace x0 := hg0.cell x0 (by simp; omega)
  replace x1 := hg0.cell x1 (by simp; omega)
  replace s0 := hg0.cell s0 (by simp; omega)
  replace s1 := hg0.cell s1 (by simp; omega)
  replace s2 := hg0.cell s2 (by simp; omega)
  replace s3 := hg0.cell s3 (by simp; omega)
  replace o0 := hg0.cell o0 (by simp; omega)
  replace o1 := hg0.cell o1 (by simp; omega)
  replace zb := Lib.hid (zb.out.grown hg0 (by omega))
  replace bb := Lib.hid (bb.out.trans ((grown_below hg0).mono (by omega)))
  replace o := Lib.hid (show OwnI _ _ _ _ _ (putL ys A C (S)) from ho)
  replace hI := Lib.hid (hI.out.put (i := A) (j := C) (by omega) (by omega) (S))
  clear ho hg0 hr hp
  generalize putL ys A C (S) = ys0 at o hI
  obtain ⟨ys, hys⟩ : ∃ ys, ys = ys0 := ⟨_, rfl⟩
  rw [← hys] at o hI
  clear hys
  go_wp2_with fail
  have hr := hI.out.row B (by omega)
  have hp := pw_63 hw6
  refine (put_spec W _ g n cc ys B D (S) _ o.out (by omega) (by omega) hr.1 (by omega)).mono ?_
  rintro e w4 ⟨rfl, hg1, ho⟩
  have szw4 := hg1.size
  replace x0 := hg1.cell x0 (by simp; omega)
  replace x1 := hg1.cell x1 (by simp; omega)
  replace s0 := hg1.cell s0 (by simp; omega)
  replace s1 := hg1.cell s1 (by simp; omega)
  replace s2 := hg1.cell s2 (by simp; omega)
  replace s3 := hg1.cell s3 (by simp; omega)
  replace o0 := hg1.cell o0 (by simp; omega)
  replace o1 := hg1.cell o1 (by simp; omega)
  replace zb := Lib.hid (zb.out.grown hg1 (by omega))
  replace bb := Lib.hid (bb.out.trans ((grown_below hg1).mono (by omega)))
  replace o := Lib.hid (show OwnI _ _ _ _ _ (putL ys B D (S)) from ho)
  replace hI := Lib.hid (hI.out.put (i := B) (j := D) (by omega) (by omega) (S))
  clear ho hg1 hr hp
  generalize putL ys B D (S) = ys1 at o hI
  obtain ⟨ys, hys⟩ : ∃ ys, ys = ys1 := ⟨_, rfl⟩
  rw [← hys] at o hI
  clear hys
  go_wp2_with fail
  have hr := hI.out.row A (by omega)
  have hp := pw_63 hw6
  refine (put_spec W _ g n cc ys A D (!S) _ o.out (by omega) (by omega) hr.1 (by omega)).mono ?_
  rintro e w5 ⟨rfl, hg2, ho⟩
  have szw5 := hg2.size
  replace x0 := hg2.cell x0 (by simp; omega)
  replace x1 := hg2.cell x1 (by simp; omega)
  replace s0 := hg2.cell s0 (by simp; omega)
  replace s1 := hg2.cell s1 (by simp; omega)
  replace s2 := hg2.cell s2 (by simp; omega)
  replace s3 := hg2.cell s3 (by simp; omega)
  replace o0 := hg2.cell o0 (by simp; omega)
  replace o1 := hg2.cell o1 (by simp; omega)
  replace zb := Lib.hid (zb.out.grown hg2 (by omega))
  replace bb := Lib.hid (bb.out.trans ((grown_below hg2).mono (by omega)))
  replace o := Lib.hid (show OwnI _ _ _ _ _ (putL ys A D (!S)) from ho)
  replace hI := Lib.hid (hI.out.put (i := A) (j := D) (by omega) (by omega) (!S))
  clear ho hg2 hr hp
  generalize putL ys A D (!S) = ys2 at o hI
  obtain ⟨ys, hys⟩ : ∃ ys, ys = ys2 := ⟨_, rfl⟩
  rw [← hys] at o hI
  clear hys
  go_wp2_with fail
  have hr := hI.out.row B (by omega)
  have hp := pw_63 hw6
  refine (put_spec W _ g n cc ys B C (!S) _ o.out (by omega) (by omega) hr.1 (by omega)).mono ?_
  rintro e w6 ⟨rfl, hg3, ho⟩
  have szw6 := hg3.size
  replace x0 := hg3.cell x0 (by simp; omega)
  replace x1 := hg3.cell x1 (by simp; omega)
  replace s0 := hg3.cell s0 (by simp; omega)
  replace s1 := hg3.cell s1 (by simp; omega)
  replace s2 := hg3.cell s2 (by simp; omega)
  replace s3 := hg3.cell s3 (by simp; omega)
  replace o0 := hg3.cell o0 (by simp; omega)
  replace o1 := hg3.cell o1 (by simp; omega)
  replace zb := Lib.hid (zb.out.grown hg3 (by omega))
  replace bb := Lib.hid (bb.out.trans ((grown_below hg3).mono (by omega)))
  replace o := Lib.hid (show OwnI _ _ _ _ _ (putL ys B C (!S)) from ho)
  replace hI := Lib.hid (hI.out.put (i := B) (j := C) (by omega) (by omega) (!S))
  clear ho hg3 hr hp
  generalize putL ys B C (!S) = ys3 at o hI
  obtain ⟨ys, hys⟩ : ∃ ys, ys = ys3 := ⟨_, rfl⟩
  rw [← hys] at o hI
  clear hys
  have z0 := zb.out.c0
  have z1 := zb.out.c1
  have zf := zb.out.fz
  go_wp2_with fail
  refine bodyPost_ret (v := .agg #[.int .i64 W, .slice (some ⟨g, 0, none⟩) n cc]) (by simp [results, Try.results81, go_sem, z0, z1]) rfl ?_
  exact ⟨_, cc, ys, rfl, ((o.out.store (show w.heap.size + 1 + 1 < W0.heap.size by omega) _).store (show w.heap.size + 1 + 1 < W0.heap.size by omega) _).mono (by omega), hI.out, (bb.out.setCell (by simp; omega) _).setCell (by simp; omega) _⟩
end Go.Proofs.Ytemmfnlnhekclaa

namespace Go.Proofs.Ytemmfnlnhekclaa
set_option maxRecDepth 100000
open Go.RowKit

set_option maxHeartbeats 400000 in
theorem list_no (W : Int) (a : Option Addr) (n cap : Nat) (xs : List Int) (w : World) (h : Row w a n xs) (hn : n ≤ 6) (hv : validB W xs = false) :
    Calls Try.prog 97 #[.agg #[.int .i64 W, .slice a n cap]] w fun e w' => (∃ g, e = .returned (.slice (some ⟨g, 0, none⟩) 0 0)) ∧ Below w.heap.size w w' := by
  have H := (h.alloc (.cells #[.int .i64 W, .slice a n cap] 35)).alloc (.cells #[] 48)
  have hb0 : Below w.heap.size w ((w.alloc (.cells #[.int .i64 W, .slice a n cap] 35)).alloc (.cells #[] 48)) := ((Below.refl _ _).alloc (Nat.le_refl _) _).alloc (by simp) _
  go_enter Try.func97, Try.ntmps97
  go_wp2_with fail
  refine (valid_spec _ _ _ _ xs _ H (by omega)).mono ?_
  rintro e w1 ⟨rfl, hb⟩
  rw [hv]
  go_wp2_with fail
  go_ret
  exact ⟨⟨_, rfl⟩, hb0.trans (hb.mono hb0.size)⟩

structure OS (w wr : World) (r : Nat) (a : Option Addr) (len cap : Nat) (zs : List Int) (p : Nat) (W : Int) (s : Option Addr) (n cg : Nat) (xs : List Int) : Prop where
  ib : Box wr w.heap.size (.int .i64 W) (.slice s n cg)
  zb : Box wr (w.heap.size + 1) (.int .i64 0) (.slice none 0 0)
  row : Row wr s n xs
  rd : Rd wr r a len cap zs p
  gr : w.grownBy wr (some r)
  hr : r < w.heap.size
  far : ∀ b off, a = some ⟨b, off, none⟩ → 0 < len → b < w.heap.size
  sr : ∀ b off, s = some ⟨b, off, none⟩ → 0 < n → b ≠ r ∧ b ≠ w.heap.size ∧ b ≠ w.heap.size + 1
theorem OS.pick {w wr w1 : World} {r : Nat} {a : Option Addr} {len cap : Nat} {zs : List Int} {p p' : Nat} {W : Int} {s : Option Addr} {n cg : Nat} {xs : List Int} (h : OS w wr r a len cap zs p W s n cg xs) (hr : Rd w1 r a len cap zs p') (hg : wr.grownBy w1 (some r)) : OS w w1 r a len cap zs p' W s n cg xs := by
  have n1 := h.hr
  exact ⟨h.ib.grown hg (by omega), h.zb.grown hg (by omega), h.row.apart hg (fun b off e hl => by have := (h.sr b off e hl).1; simpa using this), hr, grown_trans h.gr hg, h.hr, h.far, h.sr⟩
theorem OS.bel {w wr w1 : World} {r : Nat} {a : Option Addr} {len cap : Nat} {zs : List Int} {p : Nat} {W : Int} {s : Option Addr} {n cg : Nat} {xs : List Int} (h : OS w wr r a len cap zs p W s n cg xs) (hb : Below wr.heap.size wr w1) : OS w w1 r a len cap zs p W s n cg xs :=
  h.pick (h.rd.bel hb) (below_grown hb _)
theorem OS.put {w wr : World} {r : Nat} {a : Option Addr} {len cap : Nat} {zs : List Int} {p : Nat} {W V : Int} {s t : Option Addr} {n m cg c : Nat} {xs ys : List Int} (h : OS w wr r a len cap zs p W s n cg xs) (hR : Row wr t m ys) (hs : ∀ b off, t = some ⟨b, off, none⟩ → 0 < m → b ≠ r ∧ b ≠ w.heap.size ∧ b ≠ w.heap.size + 1) :
    OS w ((wr.setCell ⟨w.heap.size, 0, none⟩ (.int .i64 V)).setCell ⟨w.heap.size, 1, none⟩ (.slice t m c)) r a len cap zs p V t m c ys := by
  have n1 := h.hr
  have hg := set2_grown wr w.heap.size (.int .i64 V) (.slice t m c)
  exact ⟨⟨set2_c0 h.ib.c0, set2_c1 h.ib.c1, fun o => by rw [World.frozen?_setCell, World.frozen?_setCell]; exact h.ib.fz o⟩, h.zb.grown hg (by omega), set2_row hR (fun b off e hl => (hs b off e hl).2.1),
    h.rd.apart hg (by omega) (fun b off e hl => by have := h.far b off e hl; omega), grown_then h.gr (set2_bel (Below.refl _ _) (Nat.le_refl _)), h.hr, h.far, hs⟩

/-- What l91Other leaves. -/
def OthD (w : World) (r : Nat) (a : Option Addr) (len cap : Nat) (zs : List Int) (p : Nat) (W : Int) (s : Option Addr) (n : Nat) (e : Ending) (w' : World) : Prop :=
  ∃ (t : Option Addr) (c : Nat) (ys : List Int) (p' : Nat), e = .returned (.agg #[.int .i64 W, .slice t n c]) ∧ Row w' t n ys ∧ w.grownBy w' (some r) ∧ Rd w' r a len cap zs p' ∧ p' ≤ p + 20 ∧ (∀ b off, t = some ⟨b, off, none⟩ → 0 < n → t = s ∨ w.heap.size ≤ b)
theorem sw_cells {w : World} {B g c k W n : Nat} {L : List Int} (h : w.ownsRow B 48 4 (.slice (some ⟨g, 0, none⟩) c k) c (L.map (Value.int .i64))) (hg : Good L c W n) {q : Nat} (hq : q < c) :
    ∃ A B C D : Nat, w.cell? ⟨g, q * 4, none⟩ = some (.int .i64 A) ∧ w.cell? ⟨g, q * 4 + 1, none⟩ = some (.int .i64 B) ∧ w.cell? ⟨g, q * 4 + 2, none⟩ = some (.int .i64 C) ∧ w.cell? ⟨g, q * 4 + 3, none⟩ = some (.int .i64 D) ∧ A < B ∧ B < n ∧ C < D ∧ D < W := by
  obtain ⟨A, B', C, D, p1, p2, p3, p4, p5⟩ := hg.2 q hq
  have hl := hg.1
  have cell : ∀ j, j < c * 4 → w.cell? ⟨g, j, none⟩ = some (.int .i64 (L.getD j 0)) := fun j hj => by
    rw [World.ownsRow.cellAt h j (by omega), List.getElem?_map, List.getElem?_eq_getElem (by omega), getD_elem (by omega)]; rfl
  exact ⟨A, B', C, D, by rw [cell _ (by omega), p1], by rw [cell _ (by omega), p2], by rw [cell _ (by omega), p3], by rw [cell _ (by omega), p4], p5⟩

end Go.Proofs.Ytemmfnlnhekclaa

namespace Go.Proofs.Ytemmfnlnhekclaa
set_option maxRecDepth 100000
open Go.RowKit

/-- The middle of l91Two: two boxes for what is returned, the first image's box and rows, the reader. -/
structure TSn (w wr : World) (r : Nat) (a : Option Addr) (len cap : Nat) (zs : List Int) (p k : Nat) (V : Int) (s : Option Addr) (n cg : Nat) (xs : List Int) : Prop where
  z4 : Box wr w.heap.size (.int .i64 0) (.slice none 0 0)
  z5 : Box wr (w.heap.size + 1) (.int .i64 0) (.slice none 0 0)
  ib : Box wr k (.int .i64 V) (.slice s n cg)
  row : Row wr s n xs
  rd : Rd wr r a len cap zs p
  gr : w.grownBy wr (some r)
  hr : r < w.heap.size
  hk : w.heap.size + 1 < k
  far : ∀ b off, a = some ⟨b, off, none⟩ → 0 < len → b < w.heap.size
  sr : ∀ b off, s = some ⟨b, off, none⟩ → 0 < n → w.heap.size + 1 < b
theorem TSn.pick {w wr w1 : World} {r : Nat} {a : Option Addr} {len cap : Nat} {zs : List Int} {p p' k : Nat} {V : Int} {s : Option Addr} {n cg : Nat} {xs : List Int} (h : TSn w wr r a len cap zs p k V s n cg xs) (hr : Rd w1 r a len cap zs p') (hg : wr.grownBy w1 (some r)) : TSn w w1 r a len cap zs p' k V s n cg xs := by
  have n1 := h.hr
  have n2 := h.hk
  exact ⟨h.z4.grown hg (by omega), h.z5.grown hg (by omega), h.ib.grown hg (by omega), h.row.apart hg (fun b off e hl => by have := h.sr b off e hl; simp; omega), hr, grown_trans h.gr hg, h.hr, h.hk, h.far, h.sr⟩
theorem TSn.bel {w wr w1 : World} {r : Nat} {a : Option Addr} {len cap : Nat} {zs : List Int} {p k : Nat} {V : Int} {s : Option Addr} {n cg : Nat} {xs : List Int} (h : TSn w wr r a len cap zs p k V s n cg xs) (hb : Below wr.heap.size wr w1) : TSn w w1 r a len cap zs p k V s n cg xs :=
  h.pick (h.rd.bel hb) (below_grown hb _)
theorem TSn.other {w wr w1 : World} {r g : Nat} {a : Option Addr} {len cap : Nat} {zs : List Int} {p k : Nat} {V : Int} {s : Option Addr} {n cg : Nat} {xs : List Int} (h : TSn w wr r a len cap zs p k V s n cg xs) (hg : wr.grownBy w1 (some g)) (h1 : w.heap.size + 1 < g) (h2 : g ≠ k) (h3 : ∀ b off, s = some ⟨b, off, none⟩ → 0 < n → b ≠ g) : TSn w w1 r a len cap zs p k V s n cg xs := by
  have n1 := h.hr
  have n3 := h.gr.size
  exact ⟨h.z4.grown hg (by omega), h.z5.grown hg (by omega), h.ib.grown hg (by omega), h.row.apart hg (fun b off e hl => by have := h3 b off e hl; simpa using this), h.rd.apart hg (by omega) (fun b off e hl => by have := h.far b off e hl; omega), grown_then h.gr ((grown_below hg).mono (by omega)), h.hr, h.hk, h.far, h.sr⟩
/-- What l91Two leaves. -/
def TwoD (w : World) (r : Nat) (a : Option Addr) (len cap : Nat) (zs : List Int) (p : Nat) (e : Ending) (w' : World) : Prop :=
  ∃ (V : Int) (s : Option Addr) (n c : Nat) (xs : List Int) (V' : Int) (t : Option Addr) (m c' : Nat) (ys : List Int) (p' : Nat), e = .returned (.tuple #[.agg #[.int .i64 V, .slice s n c], .agg #[.int .i64 V', .slice t m c']]) ∧ Row w' s n xs ∧ Row w' t m ys ∧ (n ≤ 6 ∧ m ≤ 6) ∧ w.grownBy w' (some r) ∧ Rd w' r a len cap zs p' ∧ p' ≤ p + 60 ∧ (∀ b off, s = some ⟨b, off, none⟩ → 0 < n → w.heap.size ≤ b) ∧ (∀ b off, t = some ⟨b, off, none⟩ → 0 < m → w.heap.size ≤ b)
theorem TSn.fin {w wr : World} {r : Nat} {a : Option Addr} {len cap : Nat} {zs : List Int} {p p' k : Nat} {V V' : Int} {s t : Option Addr} {n cg m c : Nat} {xs ys : List Int} (h : TSn w wr r a len cap zs p k V s n cg xs) (hT : Row wr t m ys) (ht : ∀ b off, t = some ⟨b, off, none⟩ → 0 < m → w.heap.size + 1 < b) (hn : n ≤ 6) (hm : m ≤ 6) (hp : p ≤ p' + 60) :
    TwoD w r a len cap zs p' (.returned (.tuple #[.agg #[.int .i64 V, .slice s n cg], .agg #[.int .i64 V', .slice t m c]])) ((((wr.setCell ⟨w.heap.size, 0, none⟩ (.int .i64 V)).setCell ⟨w.heap.size, 1, none⟩ (.slice s n cg)).setCell ⟨w.heap.size + 1, 0, none⟩ (.int .i64 V')).setCell ⟨w.heap.size + 1, 1, none⟩ (.slice t m c)) := by
  have n1 := h.hr
  refine ⟨V, s, n, cg, xs, V', t, m, c, ys, p, rfl, ?_, ?_, ⟨hn, hm⟩, ?_, ?_, hp, fun b off e hl => by have := h.sr b off e hl; omega, fun b off e hl => by have := ht b off e hl; omega⟩
  · exact set2_row (set2_row h.row fun b off e hl => by have := h.sr b off e hl; omega) fun b off e hl => by have := h.sr b off e hl; omega
  · exact set2_row (set2_row hT fun b off e hl => by have := ht b off e hl; omega) fun b off e hl => by have := ht b off e hl; omega
  · exact grown_then h.gr (set2_bel (set2_bel (Below.refl _ _) (Nat.le_refl _)) (by omega))
  · exact (h.rd.apart (set2_grown _ _ _ _) (by omega) (fun b off e hl => by have := h.far b off e hl; omega)).apart (set2_grown _ _ _ _) (by omega) (fun b off e hl => by have := h.far b off e hl; omega)

end Go.Proofs.Ytemmfnlnhekclaa

namespace Go.Proofs.Ytemmfnlnhekclaa
set_option maxRecDepth 100000
open Go.RowKit

theorem same_parts {V W : Int} {xs ys : List Int} (h : sameB V xs W ys = true) : validB V xs = true ∧ validB W ys = true ∧ rsOut V xs = rsOut W ys ∧ csOut V xs = csOut W ys := by
  have h' := h
  rw [← same_flip] at h'
  unfold sameB fitB at h
  unfold fitB at h'
  simp only [Bool.and_eq_true, decide_eq_true_eq] at h h'
  exact ⟨h'.2.1, h.1, h.2.1.symm, h.2.2.symm⟩
/-- What a function that draws two images leaves. -/
def DrawnT (w : World) (e : Ending) (w' : World) : Prop :=
  ∃ (V : Int) (s : Option Addr) (n c : Nat) (xs : List Int) (V' : Int) (t : Option Addr) (m c' : Nat) (ys : List Int), e = .returned (.tuple #[.agg #[.int .i64 V, .slice s n c], .agg #[.int .i64 V', .slice t m c']]) ∧ Row w' s n xs ∧ Row w' t m ys ∧ (n ≤ 6 ∧ m ≤ 6) ∧ Below w.heap.size w w'

end Go.Proofs.Ytemmfnlnhekclaa

namespace Go.Proofs.Ytemmfnlnhekclaa
set_option maxRecDepth 100000
open Go.RowKit

theorem Im.same {W n : Nat} {xs ys : List Int} (h : Im W n xs) (k : Im W n ys) (hr : rsL xs W n = rsL ys W n) (hc : csL xs n W = csL ys n W) : sameB W xs W ys = true := by
  unfold sameB
  exact fitB_4 k.valid (decide_eq_true (by rw [k.rs, h.rs, hr])) (decide_eq_true (by rw [k.cs, h.cs, hc]))
theorem Im.same_turn {W n : Nat} {xs ys : List Int} (h : Im W n xs) (k : Im W n ys) (hr : rsL xs W n = rsL ys W n) (hc : csL xs n W = csL ys n W) : sameB n (turnL xs W n) n (turnL ys W n) = true :=
  h.turn.same k.turn (by rw [h.turn_rs, k.turn_rs, hc]) (by rw [h.turn_cs, k.turn_cs, hr])
theorem Im.same_mir {W n : Nat} {xs ys : List Int} (h : Im W n xs) (k : Im W n ys) (hr : rsL xs W n = rsL ys W n) (hc : csL xs n W = csL ys n W) : sameB W (mirL xs W n) W (mirL ys W n) = true :=
  h.mir.same k.mir (by rw [h.mir_rs, k.mir_rs, hr]) (lists_ext (n := W) (cs_len _ _ _) (cs_len _ _ _) fun j hj => by rw [h.mir_cs hj, k.mir_cs hj, hc])
theorem Im.same_oth {W n : Nat} {xs ys : List Int} (h : Im W n xs) (k : Im W n ys) (hr : rsL xs W n = rsL ys W n) (hc : csL xs n W = csL ys n W) : sameB W (othL xs W n) W (othL ys W n) = true :=
  h.oth.same k.oth (by rw [h.oth_rs, k.oth_rs, hr]) (by rw [h.oth_cs, k.oth_cs, hc])
end Go.Proofs.Ytemmfnlnhekclaa
