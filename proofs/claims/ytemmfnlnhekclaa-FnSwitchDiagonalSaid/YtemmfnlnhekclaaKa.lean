/-
  The contracts of the model's functions that tell and list switches, with what they answer.
  The contract of the model's function that does a switch, with what it leaves.
-/
import Derived.Test.YtemmfnlnhekclaaSk
import Derived.Test.YtemmfnlnhekclaaEa

namespace Go.Proofs.Ytemmfnlnhekclaa
set_option maxRecDepth 100000
open Go.RowKit

theorem sw_of (xs : List Int) (A B C D : Nat) : swC (cellOf xs) A B C D = (decide (bitI (xs.getD B 0) D = bitI (xs.getD A 0) C) && (decide (bitI (xs.getD A 0) D = 1 - bitI (xs.getD A 0) C) && decide (bitI (xs.getD B 0) C = 1 - bitI (xs.getD A 0) C))) := by
  rw [cell_bit, cell_bit, cell_bit, cell_bit]
  unfold swC
  cases cellOf xs A C <;> cases cellOf xs A D <;> cases cellOf xs B C <;> cases cellOf xs B D <;> decide

set_option maxHeartbeats 1000000 in
theorem okx_any (W : Nat) (a : Option Addr) (n cap : Nat) (xs : List Int) (A B C D : Nat) (w : World) (h : Row w a n xs) (hv : Im W n xs) (h1 : A < B) (h2 : B < n) (h3 : C < D) (h4 : D < W) :
    Calls Try.prog 92 #[.agg #[.int .i64 W, .slice a n cap], .agg #[.int .i64 A, .int .i64 B, .int .i64 C, .int .i64 D]] w fun e w' => e = .returned (.bool (swC (cellOf xs) A B C D)) ∧ Below w.heap.size w w' := by
  have hw6 := hv.w6
  have hn6 := hv.l6
  have e1 : inB (B : Int) 0 ((n : Int) - 1) = true := inB_yes (by omega) (by omega)
  have e2 : inB (D : Int) 0 ((W : Int) - 1) = true := inB_yes (by omega) (by omega)
  have e3 : inB (A : Int) 0 ((B : Int) - 1) = true := inB_yes (by omega) (by omega)
  have e4 : inB (C : Int) 0 ((D : Int) - 1) = true := inB_yes (by omega) (by omega)
  have b1 := bit_01 (xs.getD A 0) C
  have b2 := bit_01 (xs.getD B 0) D
  have b3 := bit_01 (xs.getD A 0) D
  have b4 := bit_01 (xs.getD B 0) C
  have g1 := Lib.hid (fun (s : Option Addr) (c : Nat) (wx : World) (h : Row wx s n xs) => get_any W s n c xs A C wx h hv (by omega) (by omega))
  have g2 := Lib.hid (fun (s : Option Addr) (c : Nat) (wx : World) (h : Row wx s n xs) => get_any W s n c xs B D wx h hv (by omega) (by omega))
  have g3 := Lib.hid (fun (s : Option Addr) (c : Nat) (wx : World) (h : Row wx s n xs) => get_any W s n c xs A D wx h hv (by omega) (by omega))
  have g4 := Lib.hid (fun (s : Option Addr) (c : Nat) (wx : World) (h : Row wx s n xs) => get_any W s n c xs B C wx h hv (by omega) (by omega))
  have hsw := Lib.hid (sw_of xs A B C D)
  generalize bitI (xs.getD A 0) C = u1 at b1 g1 hsw
  generalize bitI (xs.getD B 0) D = u2 at b2 g2 hsw
  generalize bitI (xs.getD A 0) D = u3 at b3 g3 hsw
  generalize bitI (xs.getD B 0) C = u4 at b4 g4 hsw
  clear hv
  obtain ⟨W0, hW0⟩ : ∃ W0, W0 = (w.alloc (.cells #[.int .i64 W, .slice a n cap] 35)).alloc (.cells #[.int .i64 A, .int .i64 B, .int .i64 C, .int .i64 D] 48) := ⟨_, rfl⟩
  have bb : Below w.heap.size w W0 := by subst hW0; exact ((Below.refl _ _).alloc (Nat.le_refl _) _).alloc (by simp) _
  have x0 : W0.cell? ⟨w.heap.size, 0, none⟩ = some (.int .i64 W) := by subst hW0; go_simp
  have x1 : W0.cell? ⟨w.heap.size, 1, none⟩ = some (.slice a n cap) := by subst hW0; go_simp
  have s0 : W0.cell? ⟨w.heap.size + 1, 0, none⟩ = some (.int .i64 A) := by subst hW0; go_simp
  have s1 : W0.cell? ⟨w.heap.size + 1, 1, none⟩ = some (.int .i64 B) := by subst hW0; go_simp
  have s2 : W0.cell? ⟨w.heap.size + 1, 2, none⟩ = some (.int .i64 C) := by subst hW0; go_simp
  have s3 : W0.cell? ⟨w.heap.size + 1, 3, none⟩ = some (.int .i64 D) := by subst hW0; go_simp
  have r := Lib.hid (h.bel bb)
  have bb := Lib.hid bb
  clear h
  go_enter Try.func92, Try.ntmps92
  go_wp2_with fail
  rw [← hW0]
  clear hW0
  refine (in_any _ _ _ _).mono ?_
  rintro e w1 ⟨rfl, rfl⟩
  rw [e1]
  go_wp2_with fail
  refine (in_any _ _ _ _).mono ?_
  rintro e w1 ⟨rfl, rfl⟩
  rw [e2]
  go_wp2_with fail
  refine (in_any _ _ _ _).mono ?_
  rintro e w1 ⟨rfl, rfl⟩
  rw [e3]
  go_wp2_with fail
  refine (in_any _ _ _ _).mono ?_
  rintro e w1 ⟨rfl, rfl⟩
  rw [e4]
  go_wp2_with fail
  refine (g1.out _ _ _ r.out).mono ?_
  rintro e w1 ⟨rfl, hb⟩
  replace x0 := kept hb (block_lt x0) x0
  replace x1 := kept hb (block_lt x1) x1
  replace s0 := kept hb (block_lt s0) s0
  replace s1 := kept hb (block_lt s1) s1
  replace s2 := kept hb (block_lt s2) s2
  replace s3 := kept hb (block_lt s3) s3
  replace r := Lib.hid (r.out.bel hb)
  replace bb := Lib.hid (bb.out.trans (hb.mono bb.out.size))
  clear hb
  go_wp2_with fail
  refine (g2.out _ _ _ r.out).mono ?_
  rintro e w2 ⟨rfl, hb⟩
  replace x0 := kept hb (block_lt x0) x0
  replace x1 := kept hb (block_lt x1) x1
  replace s0 := kept hb (block_lt s0) s0
  replace s1 := kept hb (block_lt s1) s1
  replace s2 := kept hb (block_lt s2) s2
  replace s3 := kept hb (block_lt s3) s3
  replace r := Lib.hid (r.out.bel hb)
  replace bb := Lib.hid (bb.out.trans (hb.mono bb.out.size))
  clear hb
  by_cases q1 : u2 = u1
  case neg =>
    have q2 : (u2 == u1) = false := by rw [beq_eq_false_iff_ne]; exact q1
    go_wp2_with fail
    go_ret
    exact ⟨by rw [hsw.out]; simp [q1], bb.out⟩
  subst q1
  go_wp2_with fail
  refine (g3.out _ _ _ r.out).mono ?_
  rintro e w3 ⟨rfl, hb⟩
  replace x0 := kept hb (block_lt x0) x0
  replace x1 := kept hb (block_lt x1) x1
  replace s0 := kept hb (block_lt s0) s0
  replace s1 := kept hb (block_lt s1) s1
  replace s2 := kept hb (block_lt s2) s2
  replace s3 := kept hb (block_lt s3) s3
  replace r := Lib.hid (r.out.bel hb)
  replace bb := Lib.hid (bb.out.trans (hb.mono bb.out.size))
  clear hb
  have wu : IntKind.i64.wrap (1 - u2) = 1 - u2 := IntWalk.i64_in _ ⟨by omega, by omega⟩
  by_cases q3 : u3 = 1 - u2
  case neg =>
    have q2 : (u3 == 1 - u2) = false := by rw [beq_eq_false_iff_ne]; exact q3
    go_wp2_with fail
    go_ret
    exact ⟨by rw [hsw.out]; simp [q3], bb.out⟩
  subst q3
  go_wp2_with fail
  refine (g4.out _ _ _ r.out).mono ?_
  rintro e w4 ⟨rfl, hb⟩
  replace bb := Lib.hid (bb.out.trans (hb.mono bb.out.size))
  clear hb
  by_cases q5 : u4 = 1 - u2
  case neg =>
    have q2 : (u4 == 1 - u2) = false := by rw [beq_eq_false_iff_ne]; exact q5
    go_wp2_with fail
    go_ret
    exact ⟨by rw [hsw.out]; simp [q5], bb.out⟩
  subst q5
  go_wp2_with fail
  go_ret
  exact ⟨by rw [hsw.out]; simp, bb.out⟩

/-- The four numbers of each place. -/
def flatS (L : List SwT) : List Int := L.flatMap fun s => [(s.1 : Int), s.2.1, s.2.2.1, s.2.2.2]
theorem sflat_snoc (L : List SwT) (A B C D : Nat) : flatS (L ++ [(A, B, C, D)]) = flatS L ++ [(A : Int), (B : Int), (C : Int), (D : Int)] := by
  unfold flatS; rw [List.flatMap_append]; simp
theorem sflat_len (L : List SwT) : (flatS L).length = L.length * 4 := by
  unfold flatS
  induction L with
  | nil => rfl
  | cons s L ih => rw [List.flatMap_cons, List.length_append, ih]; simp; omega
theorem sflat_get (L : List SwT) (j : Nat) (h : j < L.length) : (flatS L).getD (j * 4) 0 = L[j].1 ∧ (flatS L).getD (j * 4 + 1) 0 = L[j].2.1 ∧ (flatS L).getD (j * 4 + 2) 0 = L[j].2.2.1 ∧ (flatS L).getD (j * 4 + 3) 0 = L[j].2.2.2 := by
  induction L generalizing j with
  | nil => simp at h
  | cons s L ih =>
    have e : flatS (s :: L) = [(s.1 : Int), s.2.1, s.2.2.1, s.2.2.2] ++ flatS L := List.flatMap_cons
    rw [e]
    cases j with
    | zero => exact ⟨rfl, rfl, rfl, rfl⟩
    | succ j =>
      have hj := ih j (by simpa using h)
      rw [show (j + 1) * 4 = 4 + j * 4 by omega, show 4 + j * 4 + 1 = 4 + (j * 4 + 1) by omega, show 4 + j * 4 + 2 = 4 + (j * 4 + 2) by omega, show 4 + j * 4 + 3 = 4 + (j * 4 + 3) by omega]
      exact ⟨(getD_right (k := j * 4) rfl).trans hj.1, (getD_right (k := j * 4 + 1) rfl).trans hj.2.1, (getD_right (k := j * 4 + 2) rfl).trans hj.2.2.1, (getD_right (k := j * 4 + 3) rfl).trans hj.2.2.2⟩
/-- The list so far, in the middle of SwitchList. -/
structure SX (w wr : World) (W n : Nat) (s : Option Addr) (cg : Nat) (m : Nat) (L : List SwT) (v : Value) : Prop where
  c0 : wr.cell? ⟨w.heap.size, 0, none⟩ = some (.int .i64 W)
  c1 : wr.cell? ⟨w.heap.size, 1, none⟩ = some (.slice s n cg)
  bel : Below w.heap.size w wr
  len : L.length ≤ m
  own : wr.ownsRow (w.heap.size + 1) 48 4 v L.length ((flatS L).map (Value.int .i64))
theorem SX.le {w wr : World} {W n : Nat} {s : Option Addr} {cg m m' : Nat} {L : List SwT} {v : Value} (h : SX w wr W n s cg m L v) (hm : m ≤ m') : SX w wr W n s cg m' L v :=
  ⟨h.c0, h.c1, h.bel, Nat.le_trans h.len hm, h.own⟩
theorem SX.as {w wr : World} {W n : Nat} {s : Option Addr} {cg m m' : Nat} {L L' : List SwT} {v : Value} (h : SX w wr W n s cg m L v) (hm : m ≤ m') (e : L = L') : SX w wr W n s cg m' L' v := by
  subst e; exact h.le hm
theorem SX.move {w wr w1 : World} {W n : Nat} {s : Option Addr} {cg m : Nat} {L : List SwT} {v : Value} (h : SX w wr W n s cg m L v) (hb : Below wr.heap.size wr w1) : SX w w1 W n s cg m L v := by
  refine ⟨kept hb (block_lt h.c0) h.c0, kept hb (block_lt h.c1) h.c1, h.bel.trans (hb.mono h.bel.size), h.len, ?_⟩
  refine World.ownsRow.kept h.own (below_grown hb none) ?_
  rcases h.own.2 with ⟨rfl, _⟩ | ⟨g, c, cur, rfl, _⟩
  · left; rfl
  · right; simp [Value.ownBlock]
/-- What SwitchList leaves. -/
def GivesX (w : World) (L : List SwT) (e : Ending) (w' : World) : Prop :=
  (∃ v, e = .returned v ∧ w'.ownsRow w.heap.size 48 4 v L.length ((flatS L).map (Value.int .i64))) ∧ Below w.heap.size w w'

set_option maxHeartbeats 2000000 in
set_option maxRecDepth 100000 in
theorem listx_any (W : Nat) (a : Option Addr) (n cap : Nat) (xs : List Int) (w : World) (h : Row w a n xs) (hv : Im W n xs) :
    Calls Try.prog 97 #[.agg #[.int .i64 W, .slice a n cap]] w (GivesX w (swL (cellOf xs) W n)) := by
  have hw6 := hv.w6
  have hn6 := hv.l6
  obtain ⟨i0, hi, hz0, hz1, hz2⟩ := info_parts infoSw
  obtain ⟨W0, hW0⟩ : ∃ W0, W0 = (w.alloc (.cells #[.int .i64 W, .slice a n cap] 35)).alloc (.cells #[] 48) := ⟨_, rfl⟩
  have hS : SX w W0 W n a cap 0 [] (.slice (some ⟨w.heap.size + 1, 0, none⟩) 0 0) := by
    subst hW0
    exact ⟨by go_simp, by go_simp, ((Below.refl _ _).alloc (Nat.le_refl _) _).alloc (by simp) _, Nat.le_refl _, by
      have := World.ownsRow_lit (base := w.heap.size + 1) (e := 48) (size := 4) (w.alloc (.cells #[.int .i64 W, .slice a n cap] 35)) #[] 0 (by simp) (by decide) rfl
      simpa [flatS] using this⟩
  generalize hcl : cellOf xs = c at *
  replace hcl := Lib.hid hcl
  have r := Lib.hid h
  have hok : Hid (∀ (A B C D : Nat) (s : Option Addr) (cp : Nat) (wx : World), Row wx s n xs → A < B → B < n → C < D → D < W → Calls Try.prog 92 #[.agg #[.int .i64 W, .slice s n cp], .agg #[.int .i64 A, .int .i64 B, .int .i64 C, .int .i64 D]] wx fun e w' => e = .returned (.bool (swC c A B C D)) ∧ Below wx.heap.size wx w') := fun A B C D s cp wx h h1 h2 h3 h4 => by rw [← hcl.out]; exact okx_any W s n cp xs A B C D wx h hv h1 h2 h3 h4
  have hv := Lib.hid hv.valid
  replace hS := Lib.hid hS
  clear h
  have x0 := hS.out.c0
  have x1 := hS.out.c1
  go_enter Try.func97, Try.ntmps97
  go_wp2_with fail
  rw [← hW0]
  clear hW0
  refine (valid_spec _ _ _ _ xs _ (r.out.bel hS.out.bel) (by omega)).mono ?_
  rintro e w1 ⟨rfl, hb⟩
  rw [hv.out]
  replace hS := Lib.hid (hS.out.move hb)
  clear hb x0 x1
  go_wp2_with fail
  go_loopw [3, 4] (fun o i wr => ∃ k : Nat, k ≤ n ∧ i = .int .i64 k ∧ Hid (SX w wr W n a cap (216 * k) (allSw c W (uptoL n k)) o)) (fun _ i _ => n - (intOf i).toNat)
  case atStart => exact ⟨0, Nat.zero_le _, rfl, hS⟩
  case round =>
    obtain ⟨i, hi1, rfl, hQ⟩ := hrel
    obtain ⟨wi, rfl⟩ : ∃ wi : World, wi = wr := ⟨_, rfl⟩
    clear hS
    have x0 := hQ.out.c0
    have x1 := hQ.out.c1
    by_cases hlt : i < n
    · go_wp2_with fail
      go_loopw [3, 5] (fun o q wr => ∃ k : Nat, i + 1 ≤ k ∧ k ≤ n ∧ q = .int .i64 k ∧ Hid (SX w wr W n a cap (216 * i + 36 * k) (allSw c W (uptoL n i ++ segL i k)) o)) (fun _ i _ => n - (intOf i).toNat)
      case atStart => exact ⟨i + 1, by omega, by omega, by simp, hQ.out.as (by omega) (by rw [seg_nil, List.append_nil])⟩
      case round =>
        obtain ⟨k, hk0, hk1, rfl, hQ2⟩ := hrel
        obtain ⟨wk, rfl⟩ : ∃ wk : World, wk = wr := ⟨_, rfl⟩
        clear hQ x0 x1
        have x0 := hQ2.out.c0
        have x1 := hQ2.out.c1
        by_cases hlk : k < n
        · go_wp2_with fail
          go_loopw [3, 6] (fun o q wr => ∃ j : Nat, j ≤ W ∧ q = .int .i64 j ∧ Hid (SX w wr W n a cap (216 * i + 36 * k + 6 * j) (allSw c W (uptoL n i ++ segL i k) ++ rowSw c (i, k) (uptoL W j)) o)) (fun _ i _ => W - (intOf i).toNat)
          case atStart => exact ⟨0, by omega, rfl, hQ2.out.as (by omega) (by rw [upto_zero]; exact (List.append_nil _).symm)⟩
          case round =>
            obtain ⟨j, hj1, rfl, hQ3⟩ := hrel
            obtain ⟨wj, rfl⟩ : ∃ wj : World, wj = wr := ⟨_, rfl⟩
            clear hQ2 x0 x1
            have x0 := hQ3.out.c0
            have x1 := hQ3.out.c1
            by_cases hlj : j < W
            · go_wp2_with fail
              go_loopw [3, 7] (fun o q wr => ∃ l : Nat, j + 1 ≤ l ∧ l ≤ W ∧ q = .int .i64 l ∧ Hid (SX w wr W n a cap (216 * i + 36 * k + 6 * j + l) (allSw c W (uptoL n i ++ segL i k) ++ rowSw c (i, k) (uptoL W j ++ segL j l)) o)) (fun _ i _ => W - (intOf i).toNat)
              case atStart => exact ⟨j + 1, by omega, by omega, by simp, hQ3.out.as (by omega) (by rw [seg_nil, List.append_nil])⟩
              case round =>
                obtain ⟨l, hl0, hl1, rfl, hQ4⟩ := hrel
                obtain ⟨wl, rfl⟩ : ∃ wl : World, wl = wr := ⟨_, rfl⟩
                clear hQ3 x0 x1
                have x0 := hQ4.out.c0
                have x1 := hQ4.out.c1
                have lx : w.heap.size < wl.heap.size := block_lt x0
                by_cases hll : l < W
                · have hb : Below wl.heap.size wl (wl.alloc (.cells #[.int .i64 i, .int .i64 k, .int .i64 j, .int .i64 l] 48)) := (Below.refl _ _).alloc (Nat.le_refl _) _
                  have hQ5 := Lib.hid (hQ4.out.move hb)
                  clear hb
                  go_wp2_with fail
                  refine (hok.out i k j l _ _ _ (r.out.bel hQ5.out.bel) (by omega) (by omega) (by omega) (by omega)).mono ?_
                  rintro e w5 ⟨rfl, hb⟩
                  have hst := Lib.hid (rsw_snoc c (i, k) (j, l) (uptoL W j ++ segL j l))
                  have hsg := Lib.hid (seg_snoc (i := j) (k := l) (by omega))
                  obtain ⟨b, hbq⟩ : ∃ b, swC c i k j l = b := ⟨_, rfl⟩
                  rw [hbq]
                  replace hbq := Lib.hid hbq
                  have s0 : w5.cell? ⟨wl.heap.size, 0, none⟩ = some (.int .i64 i) := kept hb (by simp) (by simp)
                  have s1 : w5.cell? ⟨wl.heap.size, 1, none⟩ = some (.int .i64 k) := kept hb (by simp) (by simp)
                  have s2 : w5.cell? ⟨wl.heap.size, 2, none⟩ = some (.int .i64 j) := kept hb (by simp) (by simp)
                  have s3 : w5.cell? ⟨wl.heap.size, 3, none⟩ = some (.int .i64 l) := kept hb (by simp) (by simp)
                  have hQ6 := Lib.hid (hQ5.out.move hb)
                  clear hb hQ4 hQ5 x0 x1
                  have x0 := hQ6.out.c0
                  have x1 := hQ6.out.c1
                  cases b with
                  | false =>
                    go_wp2_with fail
                    exact ⟨⟨l + 1, by omega, by omega, by go_num, hQ6.out.as (by omega) (by rw [hsg.out, ← List.append_assoc, hst.out, hbq.out]; simp)⟩, by simp [intOf]; omega⟩
                  | true =>
                    have hown := hQ6.out.own
                    have hlen := hQ6.out.len
                    obtain ⟨L, hL⟩ : ∃ L, allSw c W (uptoL n i ++ segL i k) ++ rowSw c (i, k) (uptoL W j ++ segL j l) = L := ⟨_, rfl⟩
                    rw [hL] at hown hlen
                    replace hL := Lib.hid hL
                    obtain ⟨cl, hcl2⟩ : ∃ cl, L.length = cl := ⟨_, rfl⟩
                    rw [hcl2] at hown hlen
                    replace hcl2 := Lib.hid hcl2
                    have l5 : w.heap.size < w5.heap.size := block_lt x0
                    go_wp2_with (at_builtin; refine wpList_append_own _ rfl _ _ 103 rfl (w.heap.size + 1) 48 i0 (.agg #[.int .i64 0, .int .i64 0, .int .i64 0, .int .i64 0]) 4 32 Try.underlying103 hi hz0 hz1 hz2 rfl (by decide) _ cl ((flatS L).map (Value.int .i64)) rfl (World.ownsRow.alloc hown _) ⟨w5.heap.size, 0, none⟩ 1 1 [.int .i64 i, .int .i64 k, .int .i64 j, .int .i64 l] rfl rfl ?c1 ?c2 ?c3 ?c4 ?c5 ?_)
                    case c1 => intro j u hj; match j, hj with | 0, hj | 1, hj | 2, hj | 3, hj => simp at hj; subst hj; simp [Addr.add]
                    case c2 => intro u hu; simp at hu; rcases hu with rfl | rfl | rfl | rfl <;> rfl
                    case c3 => unfold maxLen; omega
                    case c4 => omega
                    case c5 => simp; omega
                    intro v' w6 hown1 hgr _
                    have hb3 : Below (w.heap.size + 1) w5 w6 := ((Below.refl _ _).alloc (by omega) _).grown hgr (by simp; omega) (ownsRow_far hown)
                    have hQ7 : Hid (SX w w6 W n a cap (216 * i + 36 * k + 6 * j + (l + 1)) (allSw c W (uptoL n i ++ segL i k) ++ rowSw c (i, k) (uptoL W j ++ segL j (l + 1))) v') := by
                      have e : allSw c W (uptoL n i ++ segL i k) ++ rowSw c (i, k) (uptoL W j ++ segL j (l + 1)) = L ++ [(i, k, j, l)] := by
                        rw [hsg.out, ← List.append_assoc, hst.out, ← hL.out, hbq.out, if_pos rfl, List.append_assoc]
                      rw [e]
                      exact ⟨kept hb3 (by simp) x0, kept hb3 (by simp) x1, hQ6.out.bel.trans (hb3.mono (by omega)), by rw [List.length_append, hcl2.out]; simp; omega, by rw [sflat_snoc, List.map_append, List.length_append, hcl2.out]; exact hown1⟩
                    clear hown1 hgr hb3 hown hQ6
                    go_wp2_with fail
                    exact ⟨⟨l + 1, by omega, by omega, by go_num, hQ7⟩, by simp [intOf]; omega⟩
                · have : l = W := by omega
                  subst this
                  have hus := Lib.hid (upto_snoc l j)
                  go_wp2_with fail
                  exact ⟨⟨j + 1, by omega, by go_num, hQ4.out.as (by omega) (by rw [hus.out])⟩, by simp [intOf]; omega⟩
            · have : j = W := by omega
              subst this
              have hus := Lib.hid (seg_snoc (i := i) (k := k) (by omega))
              have has := Lib.hid (asw_snoc c j (i, k) (uptoL n i ++ segL i k))
              go_wp2_with fail
              exact ⟨⟨k + 1, by omega, by omega, by go_num, hQ3.out.as (by omega) (by rw [hus.out, ← List.append_assoc, has.out]; rfl)⟩, by simp [intOf]; omega⟩
        · have : k = n := by omega
          subst this
          have hus := Lib.hid (upto_snoc k i)
          go_wp2_with fail
          exact ⟨⟨i + 1, by omega, by go_num, hQ2.out.as (by omega) (by rw [hus.out])⟩, by simp [intOf]; omega⟩
    · have : i = n := by omega
      subst this
      have hown := hQ.out.own
      have hb := Lib.hid hQ.out.bel
      obtain ⟨L, hL⟩ : ∃ L, allSw c W (uptoL i i) = L := ⟨_, rfl⟩
      rw [hL] at hown
      have hL2 : Hid (swL c W i = L) := hL
      replace hown := Lib.hid hown
      clear hL
      go_wp2_with fail
      go_ret
      rw [hL2.out]
      refine ⟨⟨_, rfl, hown.out.1, ?_⟩, hb.out⟩
      rcases hown.out.2 with h | ⟨g, c', cur, e, hg, r⟩
      · exact .inl h
      · exact .inr ⟨g, c', cur, e, by omega, r⟩
end Go.Proofs.Ytemmfnlnhekclaa

namespace Go.Proofs.Ytemmfnlnhekclaa
set_option maxRecDepth 100000
open Go.RowKit

theorem do_fl {W n : Nat} {xs : List Int} (h : Im W n xs) {A B C D : Nat} (h1 : A < B) (h2 : B < n) (h3 : C < D) (h4 : D < W) (hs : swC (cellOf xs) A B C D = true) :
    putL (putL (putL (putL xs A C (bitI (xs.getD A 0) C == 0)) B D (bitI (xs.getD A 0) C == 0)) A D (!(bitI (xs.getD A 0) C == 0))) B C (!(bitI (xs.getD A 0) C == 0)) = flL xs W n A B C D := by
  obtain ⟨S, hS⟩ : ∃ S, (bitI (xs.getD A 0) C == 0) = S := ⟨_, rfl⟩
  rw [hS]
  have eS : S = !cellOf xs A C := by rw [← hS, cell_bit]; cases cellOf xs A C <;> rfl
  have i1 := h.put (i := A) (j := C) (by omega) (by omega) S
  have i2 := i1.put (i := B) (j := D) (by omega) (by omega) S
  have i3 := i2.put (i := A) (j := D) (by omega) (by omega) (!S)
  refine (i3.put (i := B) (j := C) (by omega) (by omega) (!S)).ext (fl_im h A B C D) fun i j hi hj => ?_
  rw [i3.put_bit (by omega) (by omega) hi hj, i2.put_bit (by omega) (by omega) hi hj, i1.put_bit (by omega) (by omega) hi hj, h.put_bit (by omega) (by omega) hi hj]
  rw [cell_bit, cell_bit, fl_cell h hi hj]
  have sw := sw_bits hs
  unfold swC at hs
  by_cases e : (i = A ∨ i = B) ∧ (j = C ∨ j = D)
  · rw [fl_corner e, eS]
    rcases e with ⟨rfl | rfl, rfl | rfl⟩
    · rw [if_neg (by omega), if_neg (by omega), if_neg (by omega), if_pos ⟨rfl, rfl⟩]; rfl
    · rw [if_neg (by omega), if_pos ⟨rfl, rfl⟩]; revert hs; cases cellOf xs i C <;> cases cellOf xs B j <;> cases cellOf xs i j <;> cases cellOf xs B C <;> simp [bI]
    · rw [if_pos ⟨rfl, rfl⟩]; revert hs; cases cellOf xs A j <;> cases cellOf xs i D <;> cases cellOf xs A D <;> cases cellOf xs i j <;> simp [bI]
    · rw [if_neg (by omega), if_neg (by omega), if_pos ⟨rfl, rfl⟩]; revert hs; cases cellOf xs A C <;> cases cellOf xs i j <;> cases cellOf xs A j <;> cases cellOf xs i C <;> simp [bI]
  · rw [fl_other e, if_neg (by omega), if_neg (by omega), if_neg (by omega), if_neg (by omega)]

/-- What l11Do leaves: an image of these rows. -/
def GivesD (w : World) (W n : Nat) (ys : List Int) (e : Ending) (w' : World) : Prop :=
  (∃ (a : Option Addr) (c : Nat), e = .returned (.agg #[.int .i64 W, .slice a n c]) ∧ OwnI w' w.heap.size a n c ys) ∧ Below w.heap.size w w'

set_option maxHeartbeats 1000000 in
set_option maxRecDepth 100000 in
theorem dox_any (W : Nat) (a : Option Addr) (n cap : Nat) (xs : List Int) (A B C D : Nat) (w : World) (h : Row w a n xs) (hv : Im W n xs) (h1 : A < B) (h2 : B < n) (h3 : C < D) (h4 : D < W) (hs : swC (cellOf xs) A B C D = true) :
    Calls Try.prog 81 #[.agg #[.int .i64 W, .slice a n cap], .agg #[.int .i64 A, .int .i64 B, .int .i64 C, .int .i64 D]] w (GivesD w W n (flL xs W n A B C D)) := by
  have hfl := Lib.hid (do_fl hv h1 h2 h3 h4 hs)
  clear hs
  have hw6 := hv.w6
  have hn6 := hv.l6
  obtain ⟨W0, hW0⟩ : ∃ W0, W0 = ((w.alloc (.cells #[.int .i64 W, .slice a n cap] 35)).alloc (.cells #[.int .i64 A, .int .i64 B, .int .i64 C, .int .i64 D] 48)).alloc (.cells #[.int .i64 0, .slice none 0 0] 35) := ⟨_, rfl⟩
  have bb : Below w.heap.size w W0 := by subst hW0; exact (((Below.refl _ _).alloc (Nat.le_refl _) _).alloc (by simp) _).alloc (by simp; omega) _
  have x0 : W0.cell? ⟨w.heap.size, 0, none⟩ = some (.int .i64 W) := by subst hW0; go_simp
  have x1 : W0.cell? ⟨w.heap.size, 1, none⟩ = some (.slice a n cap) := by subst hW0; go_simp
  have s0 : W0.cell? ⟨w.heap.size + 1, 0, none⟩ = some (.int .i64 A) := by subst hW0; go_simp
  have s1 : W0.cell? ⟨w.heap.size + 1, 1, none⟩ = some (.int .i64 B) := by subst hW0; go_simp
  have s2 : W0.cell? ⟨w.heap.size + 1, 2, none⟩ = some (.int .i64 C) := by subst hW0; go_simp
  have s3 : W0.cell? ⟨w.heap.size + 1, 3, none⟩ = some (.int .i64 D) := by subst hW0; go_simp
  have z0 : W0.cell? ⟨w.heap.size + 1 + 1, 0, none⟩ = some (.int .i64 0) := by subst hW0; go_simp
  have z1 : W0.cell? ⟨w.heap.size + 1 + 1, 1, none⟩ = some (.slice none 0 0) := by subst hW0; go_simp
  have zf : ∀ o, W0.frozen? ⟨w.heap.size + 1 + 1, o, none⟩ = false := fun o => by subst hW0; go_simp
  have l0 : w.heap.size + 1 + 1 < W0.heap.size := block_lt z0
  have r := Lib.hid (h.bel bb)
  have zb : Hid (Box W0 (w.heap.size + 1 + 1) (.int .i64 0) (.slice none 0 0)) := ⟨z0, z1, zf⟩
  have bb := Lib.hid bb
  clear z0 z1 zf
  obtain ⟨b, off, rfl, hcc⟩ := r.out.2.resolve_left (by omega)
  have hl := h.1
  clear h
  go_enter Try.func81, Try.ntmps81
  go_wp2_with fail
  rw [← hW0]
  clear hW0
  refine (copy_spec W b off n cap xs _ hl hcc (by omega) (by omega)).mono ?_
  rintro e w1 ⟨⟨ac, cc, rfl, ho⟩, hb⟩
  obtain ⟨g, rfl⟩ : ∃ g, ac = some ⟨g, 0, none⟩ := by
    rcases ho.cases with ⟨_, h, _⟩ | ⟨g, h, _⟩
    · omega
    · exact ⟨g, h⟩
  have hg := own_ge ho
  clear hcc
  have szw1 := hb.size
  replace x0 := kept hb (block_lt x0) x0
  replace x1 := kept hb (block_lt x1) x1
  replace s0 := kept hb (block_lt s0) s0
  replace s1 := kept hb (block_lt s1) s1
  replace s2 := kept hb (block_lt s2) s2
  replace s3 := kept hb (block_lt s3) s3
  replace r := Lib.hid (r.out.bel hb)
  replace bb := Lib.hid (bb.out.trans (hb.mono bb.out.size))
  replace zb := Lib.hid (zb.out.bel hb)
  clear hb
  have hbx : Below w1.heap.size w1 (w1.alloc (.cells #[.int .i64 W, .slice (some ⟨g, 0, none⟩) n cc] 35)) := (Below.refl _ _).alloc (Nat.le_refl _) _
  replace x0 := kept hbx (block_lt x0) x0
  replace x1 := kept hbx (block_lt x1) x1
  replace s0 := kept hbx (block_lt s0) s0
  replace s1 := kept hbx (block_lt s1) s1
  replace s2 := kept hbx (block_lt s2) s2
  replace s3 := kept hbx (block_lt s3) s3
  replace r := Lib.hid (r.out.bel hbx)
  replace bb := Lib.hid (bb.out.trans (hbx.mono bb.out.size))
  replace zb := Lib.hid (zb.out.bel hbx)
  have o0 : (w1.alloc (.cells #[.int .i64 W, .slice (some ⟨g, 0, none⟩) n cc] 35)).cell? ⟨w1.heap.size, 0, none⟩ = some (.int .i64 W) := by simp
  have o1 : (w1.alloc (.cells #[.int .i64 W, .slice (some ⟨g, 0, none⟩) n cc] 35)).cell? ⟨w1.heap.size, 1, none⟩ = some (.slice (some ⟨g, 0, none⟩) n cc) := by simp
  have o := Lib.hid (ho.bel hbx)
  have hI := Lib.hid hv
  clear hbx ho hv
  go_wp2_with fail
  refine (get_any W _ n cap xs A C _ r.out hI.out (by omega) (by omega)).mono ?_
  rintro e w2 ⟨rfl, hb⟩
  generalize bitI (xs.getD A 0) C = u at hfl ⊢
  replace x0 := kept hb (block_lt x0) x0
  replace x1 := kept hb (block_lt x1) x1
  replace s0 := kept hb (block_lt s0) s0
  replace s1 := kept hb (block_lt s1) s1
  replace s2 := kept hb (block_lt s2) s2
  replace s3 := kept hb (block_lt s3) s3
  replace o0 := kept hb (block_lt o0) o0
  replace o1 := kept hb (block_lt o1) o1
  replace r := Lib.hid (r.out.bel hb)
  replace o := Lib.hid (o.out.bel hb)
  replace bb := Lib.hid (bb.out.trans (hb.mono bb.out.size))
  replace zb := Lib.hid (zb.out.bel hb)
  have s2' : w1.heap.size < w2.heap.size := block_lt o0
  clear hb
  obtain ⟨S, hS⟩ : ∃ S, (u == 0) = S := ⟨_, rfl⟩
  rw [hS] at hfl
  obtain ⟨ys, hys⟩ : ∃ ys, ys = xs := ⟨_, rfl⟩
  have hfl2 : Hid (putL (putL (putL (putL ys A C S) B D S) A D (!S)) B C (!S) = flL xs W n A B C D) := by rw [hys]; exact hfl.out
  rw [← hys] at o hI
  clear hys hfl
  replace hfl := hfl2
  clear hfl2
  go_wp2_with fail
  have hr := hI.out.row A (by omega)
  have hp := pw_63 hw6
  refine (put_spec W _ g n cc ys A C (S) _ o.out (by omega) (by omega) hr.1 (by omega)).mono ?_
  rintro e w3 ⟨rfl, hg0, ho⟩
  have szw3 := hg0.size
  replace x0 := hg0.cell x0 (by simp; omega)
  replace x1 := hg0.cell x1 (by simp; omega)
  replace s0 := hg0.cell s0 (by simp; omega)
  replace s1 := hg0.cell s1 (by simp; omega)
  replace s2 := hg0.cell s2 (by simp; omega)
  replace s3 := hg0.cell s3 (by simp; omega)
  replace o0 := hg0.cell o0 (by simp; omega)
  replace o1 := hg0.cell o1 (by simp; omega)
  replace zb := Lib.hid (zb.out.grown hg0 (by omega))
  replace bb := Lib.hid (bb.out.trans ((grown_below hg0).mono (by omega)))
  replace o := Lib.hid (show OwnI _ _ _ _ _ (putL ys A C (S)) from ho)
  replace hI := Lib.hid (hI.out.put (i := A) (j := C) (by omega) (by omega) (S))
  clear ho hg0 hr hp
  obtain ⟨ys0, hy0⟩ : ∃ z, putL ys A C (S) = z := ⟨_, rfl⟩
  rw [hy0] at o hI
  have hfl2 : Hid (putL (putL (putL ys0 B D S) A D (!S)) B C (!S) = flL xs W n A B C D) := by rw [← hy0]; exact hfl.out
  clear hfl hy0
  obtain ⟨ys, hys⟩ : ∃ ys, ys = ys0 := ⟨_, rfl⟩
  rw [← hys] at o hI hfl2
  clear hys
  replace hfl := hfl2
  clear hfl2
  go_wp2_with fail
  have hr := hI.out.row B (by omega)
  have hp := pw_63 hw6
  refine (put_spec W _ g n cc ys B D (S) _ o.out (by omega) (by omega) hr.1 (by omega)).mono ?_
  rintro e w4 ⟨rfl, hg1, ho⟩
  have szw4 := hg1.size
  replace x0 := hg1.cell x0 (by simp; omega)
  replace x1 := hg1.cell x1 (by simp; omega)
  replace s0 := hg1.cell s0 (by simp; omega)
  replace s1 := hg1.cell s1 (by simp; omega)
  replace s2 := hg1.cell s2 (by simp; omega)
  replace s3 := hg1.cell s3 (by simp; omega)
  replace o0 := hg1.cell o0 (by simp; omega)
  replace o1 := hg1.cell o1 (by simp; omega)
  replace zb := Lib.hid (zb.out.grown hg1 (by omega))
  replace bb := Lib.hid (bb.out.trans ((grown_below hg1).mono (by omega)))
  replace o := Lib.hid (show OwnI _ _ _ _ _ (putL ys B D (S)) from ho)
  replace hI := Lib.hid (hI.out.put (i := B) (j := D) (by omega) (by omega) (S))
  clear ho hg1 hr hp
  obtain ⟨ys1, hy1⟩ : ∃ z, putL ys B D (S) = z := ⟨_, rfl⟩
  rw [hy1] at o hI
  have hfl2 : Hid (putL (putL ys1 A D (!S)) B C (!S) = flL xs W n A B C D) := by rw [← hy1]; exact hfl.out
  clear hfl hy1
  obtain ⟨ys, hys⟩ : ∃ ys, ys = ys1 := ⟨_, rfl⟩
  rw [← hys] at o hI hfl2
  clear hys
  replace hfl := hfl2
  clear hfl2
  go_wp2_with fail
  have hr := hI.out.row A (by omega)
  have hp := pw_63 hw6
  refine (put_spec W _ g n cc ys A D (!S) _ o.out (by omega) (by omega) hr.1 (by omega)).mono ?_
  rintro e w5 ⟨rfl, hg2, ho⟩
  have szw5 := hg2.size
  replace x0 := hg2.cell x0 (by simp; omega)
  replace x1 := hg2.cell x1 (by simp; omega)
  replace s0 := hg2.cell s0 (by simp; omega)
  replace s1 := hg2.cell s1 (by simp; omega)
  replace s2 := hg2.cell s2 (by simp; omega)
  replace s3 := hg2.cell s3 (by simp; omega)
  replace o0 := hg2.cell o0 (by simp; omega)
  replace o1 := hg2.cell o1 (by simp; omega)
  replace zb := Lib.hid (zb.out.grown hg2 (by omega))
  replace bb := Lib.hid (bb.out.trans ((grown_below hg2).mono (by omega)))
  replace o := Lib.hid (show OwnI _ _ _ _ _ (putL ys A D (!S)) from ho)
  replace hI := Lib.hid (hI.out.put (i := A) (j := D) (by omega) (by omega) (!S))
  clear ho hg2 hr hp
  obtain ⟨ys2, hy2⟩ : ∃ z, putL ys A D (!S) = z := ⟨_, rfl⟩
  rw [hy2] at o hI
  have hfl2 : Hid (putL ys2 B C (!S) = flL xs W n A B C D) := by rw [← hy2]; exact hfl.out
  clear hfl hy2
  obtain ⟨ys, hys⟩ : ∃ ys, ys = ys2 := ⟨_, rfl⟩
  rw [← hys] at o hI hfl2
  clear hys
  replace hfl := hfl2
  clear hfl2
  go_wp2_with fail
  have hr := hI.out.row B (by omega)
  have hp := pw_63 hw6
  refine (put_spec W _ g n cc ys B C (!S) _ o.out (by omega) (by omega) hr.1 (by omega)).mono ?_
  rintro e w6 ⟨rfl, hg3, ho⟩
  have szw6 := hg3.size
  replace x0 := hg3.cell x0 (by simp; omega)
  replace x1 := hg3.cell x1 (by simp; omega)
  replace s0 := hg3.cell s0 (by simp; omega)
  replace s1 := hg3.cell s1 (by simp; omega)
  replace s2 := hg3.cell s2 (by simp; omega)
  replace s3 := hg3.cell s3 (by simp; omega)
  replace o0 := hg3.cell o0 (by simp; omega)
  replace o1 := hg3.cell o1 (by simp; omega)
  replace zb := Lib.hid (zb.out.grown hg3 (by omega))
  replace bb := Lib.hid (bb.out.trans ((grown_below hg3).mono (by omega)))
  replace o := Lib.hid (show OwnI _ _ _ _ _ (putL ys B C (!S)) from ho)
  replace hI := Lib.hid (hI.out.put (i := B) (j := C) (by omega) (by omega) (!S))
  clear ho hg3 hr hp
  obtain ⟨ys3, hy3⟩ : ∃ z, putL ys B C (!S) = z := ⟨_, rfl⟩
  rw [hy3] at o hI
  have hfl2 : Hid (ys3 = flL xs W n A B C D) := by rw [← hy3]; exact hfl.out
  clear hfl hy3
  obtain ⟨ys, hys⟩ : ∃ ys, ys = ys3 := ⟨_, rfl⟩
  rw [← hys] at o hI hfl2
  clear hys
  replace hfl := hfl2
  clear hfl2
  have z0 := zb.out.c0
  have z1 := zb.out.c1
  have zf := zb.out.fz
  go_wp2_with fail
  refine bodyPost_ret (v := .agg #[.int .i64 W, .slice (some ⟨g, 0, none⟩) n cc]) (by simp [results, Try.results81, go_sem, z0, z1]) rfl ?_
  have o2 := o.out
  rw [show ys = flL xs W n A B C D from hfl.out] at o2
  exact ⟨⟨_, cc, rfl, ((o2.store (show w.heap.size + 1 + 1 < W0.heap.size by omega) _).store (show w.heap.size + 1 + 1 < W0.heap.size by omega) _).mono (by omega)⟩, (bb.out.setCell (by simp; omega) _).setCell (by simp; omega) _⟩
end Go.Proofs.Ytemmfnlnhekclaa
