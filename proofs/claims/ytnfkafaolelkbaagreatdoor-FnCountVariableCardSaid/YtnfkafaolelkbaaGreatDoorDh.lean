/-
  The heap's own methods (Len, Less, Swap, Pop, Push): how they are found, their contracts.
  The contracts of container/heap at the heap of lines: down, up, Init, Pop, Push.
  The contracts of container/heap at the heap of lines: Init, Pop, Push.
  The contracts of openLinesOf and take.
  The contracts of the canvases' set and of build.
-/
import Derived.Test.YtnfkafaolelkbaaGreatDoorDa
import Derived.RegionTactic
import Derived.Deep.RegionLaw
import Derived.Test.YtnfkafaolelkbaaGreatDoorCe

namespace Go.Proofs.YtnfkafaolelkbaaGreatDoor
set_option maxRecDepth 100000
open Go.RowKit

/-- The heap as a value of an interface. -/
abbrev hpV (b : Nat) : Value := .iface 76 (.pointer (some ⟨b, 0, none⟩))
/-- A line as a value of an interface. -/
abbrev lnV (x y : Int) : Value := .iface 105 (.agg #[.int .i64 x, .int .i64 y])
theorem na_Len (b : Addr) (w : World) : (nilAhead 297 76 (.pointer (some b)) "Len").run Tryz.prog w = .ok (some false) w := by kernel_rfl
theorem na_Less (b : Addr) (w : World) : (nilAhead 297 76 (.pointer (some b)) "Less").run Tryz.prog w = .ok (some false) w := by kernel_rfl
theorem na_Swap (b : Addr) (w : World) : (nilAhead 297 76 (.pointer (some b)) "Swap").run Tryz.prog w = .ok (some false) w := by kernel_rfl
theorem na_Pop (b : Addr) (w : World) : (nilAhead 297 76 (.pointer (some b)) "Pop").run Tryz.prog w = .ok (some false) w := by kernel_rfl
theorem na_Push (b : Addr) (w : World) : (nilAhead 297 76 (.pointer (some b)) "Push").run Tryz.prog w = .ok (some false) w := by kernel_rfl
theorem me_Pop (b : Addr) (w : World) : (Go.method 297 76 (.pointer (some b)) "Pop").run Tryz.prog w = .ok (129, .pointer (some b)) w := by kernel_rfl
theorem me_Push (b : Addr) (w : World) : (Go.method 297 76 (.pointer (some b)) "Push").run Tryz.prog w = .ok (130, .pointer (some b)) w := by kernel_rfl
theorem mk_Len (b : Addr) (w : World) : (Go.method 297 76 (.pointer (some b)) "Len").run Tryz.prog w = (do let v ← loadVar 103 b; pure (127, v)).run Tryz.prog w := by kernel_rfl
theorem mk_Less (b : Addr) (w : World) : (Go.method 297 76 (.pointer (some b)) "Less").run Tryz.prog w = (do let v ← loadVar 103 b; pure (128, v)).run Tryz.prog w := by kernel_rfl
theorem mk_Swap (b : Addr) (w : World) : (Go.method 297 76 (.pointer (some b)) "Swap").run Tryz.prog w = (do let v ← loadVar 103 b; pure (131, v)).run Tryz.prog w := by kernel_rfl
theorem me_Len {b : Addr} {s : Option Addr} {n cap : Nat} {w : World} (h : w.cell? b = some (.slice s n cap)) : (Go.method 297 76 (.pointer (some b)) "Len").run Tryz.prog w = .ok (127, .slice s n cap) w := by
  rw [mk_Len]; simp [h, go_sem, loadVar]
theorem me_Less {b : Addr} {s : Option Addr} {n cap : Nat} {w : World} (h : w.cell? b = some (.slice s n cap)) : (Go.method 297 76 (.pointer (some b)) "Less").run Tryz.prog w = .ok (128, .slice s n cap) w := by
  rw [mk_Less]; simp [h, go_sem, loadVar]
theorem me_Swap {b : Addr} {s : Option Addr} {n cap : Nat} {w : World} (h : w.cell? b = some (.slice s n cap)) : (Go.method 297 76 (.pointer (some b)) "Swap").run Tryz.prog w = .ok (131, .slice s n cap) w := by
  rw [mk_Swap]; simp [h, go_sem, loadVar]

theorem len_line (s : Option Addr) (n cap : Nat) (w : World) :
    Calls Tryz.prog 127 #[.slice s n cap] w fun e w' => e = .returned (.int .i64 n) ∧ w = w' := by
  go_enter Tryz.func127, Tryz.ntmps127
  go_wp2
  go_ret
  exact ⟨rfl, rfl⟩
set_option maxHeartbeats 800000 in
theorem less_cells (g n cap p q : Nat) (i x k y : Int) (w : World) (c0 : w.cell? ⟨g, p * 2, none⟩ = some (.int .i64 i)) (c1 : w.cell? ⟨g, p * 2 + 1, none⟩ = some (.int .i64 x))
    (d0 : w.cell? ⟨g, q * 2, none⟩ = some (.int .i64 k)) (d1 : w.cell? ⟨g, q * 2 + 1, none⟩ = some (.int .i64 y)) (hp : p < n) (hq : q < n) :
    Calls Tryz.prog 128 #[.slice (some ⟨g, 0, none⟩) n cap, .int .i64 p, .int .i64 q] w fun e w' => e = .returned (.bool (if x = y then decide (i < k) else decide (y < x))) ∧ Below w.heap.size w w' := by
  by_cases e : x = y
  · subst e
    rw [if_pos rfl]
    have t1 : (x != x) = false := by simp
    go_enter Tryz.func128, Tryz.ntmps128
    go_wp2_with fail
    go_quiet (fail)
    go_wp2_with fail
    go_quiet (fail)
    go_wp2_with fail
    go_ret
    exact ⟨rfl, below_drewN (below_drewN (Below.refl _ _) _) _⟩
  · rw [if_neg e]
    have t1 : (x != y) = true := by simpa using e
    clear e
    go_enter Tryz.func128, Tryz.ntmps128
    go_wp2_with fail
    go_quiet (fail)
    go_wp2_with fail
    go_quiet (fail)
    go_wp2_with fail
    go_ret
    exact ⟨rfl, below_drewN (below_drewN (Below.refl _ _) _) _⟩
theorem less_line {g n cap p q : Nat} {L : PL} {w : World} (h : OwnL w g n cap L) (hp : p < n) (hq : q < n) :
    Calls Tryz.prog 128 #[.slice (some ⟨g, 0, none⟩) n cap, .int .i64 p, .int .i64 q] w fun e w' => e = .returned (.bool (decide (les (pget L p) (pget L q)))) ∧ Below w.heap.size w w' :=
  (less_cells g n cap p q _ _ _ _ w (h.c0 hp) (h.c1 hp) (h.c0 hq) (h.c1 hq) hp hq).mono fun e w' hh => ⟨by
    rw [hh.1]
    have : (if (pget L p).2 = (pget L q).2 then decide ((pget L p).1 < (pget L q).1) else decide ((pget L q).2 < (pget L p).2)) = decide (les (pget L p) (pget L q)) := by
      by_cases e : (pget L p).2 = (pget L q).2
      · rw [if_pos e]; exact decide_eq_decide.2 ⟨fun h1 => .inr ⟨e, h1⟩, fun h1 => h1.elim (fun h2 => by omega) fun h2 => h2.2⟩
      · rw [if_neg e]; exact decide_eq_decide.2 ⟨fun h1 => .inl h1, fun h1 => h1.elim id fun h2 => absurd h2.1 e⟩
    rw [this], hh.2⟩
set_option maxHeartbeats 1600000 in
theorem swap_cells (g n cap p q : Nat) (i x k y : Int) (w : World) (c0 : w.cell? ⟨g, p * 2, none⟩ = some (.int .i64 i)) (c1 : w.cell? ⟨g, p * 2 + 1, none⟩ = some (.int .i64 x))
    (d0 : w.cell? ⟨g, q * 2, none⟩ = some (.int .i64 k)) (d1 : w.cell? ⟨g, q * 2 + 1, none⟩ = some (.int .i64 y)) (f : ∀ j, w.frozen? ⟨g, j, none⟩ = false) (hp : p < n) (hq : q < n) :
    Calls Tryz.prog 131 #[.slice (some ⟨g, 0, none⟩) n cap, .int .i64 p, .int .i64 q] w fun e w' => e = .returned (.tuple #[]) ∧ w' = set4 w.drew g p q (i, x) (k, y) := by
  by_cases e : p = q
  · subst e
    obtain rfl : i = k := by rw [c0] at d0; simpa using d0
    obtain rfl : x = y := by rw [c1] at d1; simpa using d1
    clear d0 d1
    go_enter Tryz.func131, Tryz.ntmps131
    go_wp2_with fail
    go_region
    all_goals
      go_wp2_with fail
      go_end0
      exact ⟨rfl, rfl⟩
  · have e0 : (w.setCell ⟨g, p * 2, none⟩ (.int .i64 k)).cell? ⟨g, q * 2, none⟩ = some (.int .i64 k) := by
      rw [World.cell?_setCell_other _ _ _ _ (by simp; try omega)]; exact d0
    have e1 : ((w.setCell ⟨g, p * 2, none⟩ (.int .i64 k)).setCell ⟨g, p * 2 + 1, none⟩ (.int .i64 y)).cell? ⟨g, q * 2 + 1, none⟩ = some (.int .i64 y) := by
      rw [World.cell?_setCell_other _ _ _ _ (by simp; try omega), World.cell?_setCell_other _ _ _ _ (by simp; try omega)]; exact d1
    clear e
    go_enter Tryz.func131, Tryz.ntmps131
    go_wp2_with fail
    go_region
    all_goals
      go_wp2_with fail
      go_end0
      exact ⟨rfl, rfl⟩
theorem swap_line {b g cap p q : Nat} {L : PL} {w : World} (h : HS w b g cap L) (hp : p < L.length) (hq : q < L.length) :
    Calls Tryz.prog 131 #[.slice (some ⟨g, 0, none⟩) L.length cap, .int .i64 p, .int .i64 q] w fun e w' => e = .returned (.tuple #[]) ∧ HS w' b g cap (pswap L p q) ∧ Ch b g w w' :=
  (swap_cells g _ cap p q _ _ _ _ w (h.own.c0 hp) (h.own.c1 hp) (h.own.c0 hq) (h.own.c1 hq) h.own.frozen hp hq).mono fun e w' hh => ⟨hh.1, by
    rw [hh.2]; exact (h.bel ((Below.refl _ _).drew)).swap p q, by
    rw [hh.2]; exact (Ch.refl b g w).drew.trans (Ch.grown (set4_grown _ _ _ _ _ _) (.inr (.inr rfl)))⟩

set_option maxHeartbeats 800000 in
theorem pop_line {b g cap n : Nat} {L : PL} {w : World} (h : HS w b g cap L) (hn : L.length = n + 1) (hm : n < 1048576) :
    Calls Tryz.prog 129 #[.pointer (some ⟨b, 0, none⟩)] w fun e w' => e = .returned (lnV (pget L n).1 (pget L n).2) ∧ HS w' b g cap (L.take n) ∧ Ch b g w w' := by
  have x := h.box
  have f := h.fz
  have c0 := h.own.c0 (i := n) (by omega)
  have c1 := h.own.c1 (i := n) (by omega)
  have hc := h.own.room
  rw [hn] at x hc
  have hp : Hid (HS ((w.setCell ⟨b, 0, none⟩ (.slice (some ⟨g, 0, none⟩) n cap)).alloc (.cells #[.int .i64 (pget L n).1, .int .i64 (pget L n).2] 105)) b g cap (L.take n)) := (h.pop hn).bel ((Below.refl _ _).alloc (Nat.le_refl _) _)
  have hch : Hid (Ch b g w ((w.setCell ⟨b, 0, none⟩ (.slice (some ⟨g, 0, none⟩) n cap)).alloc (.cells #[.int .i64 (pget L n).1, .int .i64 (pget L n).2] 105))) := ((Ch.refl b g w).setB 0 _).alloc _
  have hb := block_lt x
  have hg := h.own.lt
  generalize (pget L n).1 = i at *
  generalize (pget L n).2 = y at *
  clear h
  go_enter Tryz.func129, Tryz.ntmps129
  go_wp2_with fail
  go_ret
  exact ⟨rfl, hp.out, hch.out⟩
theorem infoLine : (Tryz.prog.info? 105).map (fun i => (i.zero, i.size, i.bytes)) = some (some (.agg #[.int .i64 0, .int .i64 0]), 2, 16) := by kernel_rfl
/-- A step of a region that draws its order: append within the capacity. -/
theorem step_append_fits {P : Program} {w : World} {ops : Array Oper} {o : Oper} {a : Act} {K : Act → World → Prop} {Q : Exit → Act → World → Prop} {E : Prop} (hgd : o.guard = none) (s x : Operand) (t : TypeId)
    (ho : o.op = .call { callee := .builtin .append, args := #[s, x], argTypes := #[t, t] })
    (base : Nat) (e : TypeId) (i : TypeInfo) (size : Nat) (ht : P.underlying t = some (.slice e)) (hi : P.info? e = some i) (hsize : i.size = size)
    (g k cap : Nat) (xs : List Value) (hs : a.eval s = .slice (some ⟨g, 0, none⟩) k cap) (hown : w.ownsRow base e size (.slice (some ⟨g, 0, none⟩) k cap) k xs)
    (ad : Addr) (m c : Nat) (news : List Value) (hx : a.eval x = .slice (some ad) m c) (hl : news.length = m * size) (hnews : ∀ j u, news[j]? = some u → w.cell? (ad.add j) = some u) (h1 : ∀ u ∈ news, u.oneCell' = true)
    (b1 : k + m ≤ cap)
    (h : ∀ w', w'.ownsRow base e size (.slice (some ⟨g, 0, none⟩) (k + m) cap) (k + m) (xs ++ news) → w.grownBy w' (some g) → K (a.put o.dst (.slice (some ⟨g, 0, none⟩) (k + m) cap)) w') :
    if Region.wanted o (yielded ops a.tmps) = true then Oper.wp P o a w K Q else E := by
  have hw : Region.wanted o (yielded ops a.tmps) = true := by simp [Region.wanted, hgd]
  rw [if_pos hw]
  obtain ⟨w', hr, h2, h3⟩ := run_append_fits (P := P) w base t o.type e i size ht hi hsize g k cap xs hown ad m c news hl hnews h1 b1
  unfold Oper.wp execOp
  simp only [ho, resolve, invoke, builtin, Sem.run_bind, Sem.run_pure, Result.andThen_ok, List.map_toArray, List.map_cons, List.map_nil, hs, hx, hr]
  exact h w' h2 h3
theorem HS.pushed {w w1 w3 : World} {b g cap : Nat} {L : PL} {x y : Int} (h : HS w b g cap L) (hb : Below w.heap.size w w1)
    (ho : w3.ownsRow 0 105 2 (.slice (some ⟨g, 0, none⟩) (L.length + 1) cap) (L.length + 1) (flat L ++ [.int .i64 x, .int .i64 y])) (hg : w1.grownBy w3 (some g)) :
    Hid (HS (w3.setCell ⟨b, 0, none⟩ (.slice (some ⟨g, 0, none⟩) (L.length + 1) cap)) b g cap (L ++ [(x, y)])) ∧ Hid (Ch b g w (w3.setCell ⟨b, 0, none⟩ (.slice (some ⟨g, 0, none⟩) (L.length + 1) cap))) := by
  have h1 := h.bel hb
  have hl : (L ++ [(x, y)]).length = L.length + 1 := by simp
  have hs : w3.grownBy (w3.setCell ⟨b, 0, none⟩ (.slice (some ⟨g, 0, none⟩) (L.length + 1) cap)) (some b) := grown_set (World.grownBy.refl _ _)
  refine ⟨⟨?_, ?_, ?_, h.ne⟩, ((Ch.of hb).trans (Ch.grown hg (.inr (.inr rfl)))).setB 0 _⟩
  · rw [hl]; exact World.cell?_setCell_same _ _ _ (hg.cell h1.box (by simpa using h.ne))
  · rw [hl]
    have ho2 : OwnL w3 g (L.length + 1) cap (L ++ [(x, y)]) := by unfold OwnL; rw [fl_app]; exact ho
    exact ho2.kept hs (by simpa using Ne.symm h.ne)
  · rw [World.frozen?_setCell, World.frozen?_of_block (hg.block b (block_lt h1.box) (by simpa using h.ne))]; exact h1.fz
theorem pair_news {w2 : World} {k : Nat} {x y : Int} (h0 : w2.cell? ⟨k, 0, none⟩ = some (.int .i64 x)) (h1 : w2.cell? ⟨k, 1, none⟩ = some (.int .i64 y)) :
    ∀ j u, [Value.int .i64 x, .int .i64 y][j]? = some u → w2.cell? ((⟨k, 0, none⟩ : Addr).add j) = some u := by
  intro j u hj
  match j, hj with
  | 0, hj => cases hj; simpa [Addr.add] using h0
  | 1, hj => cases hj; simpa [Addr.add] using h1
  | j + 2, hj => simp at hj
theorem pair_one {x y : Int} : ∀ u ∈ [Value.int .i64 x, .int .i64 y], u.oneCell' = true := by
  intro u hu
  rcases List.mem_cons.1 hu with rfl | hu
  · rfl
  · rcases List.mem_cons.1 hu with rfl | hu
    · rfl
    · cases hu
theorem ta_line (x y : Int) (w : World) : (Instr.typeAssert (lnV x y) 20 105 false).run Tryz.prog w = .ok (.agg #[.int .i64 x, .int .i64 y]) w := by kernel_rfl
set_option maxHeartbeats 1600000 in
theorem push_line {b g cap : Nat} {L : PL} {x y : Int} {w : World} (h : HS w b g cap L) (hc : L.length + 1 ≤ cap) :
    Calls Tryz.prog 130 #[.pointer (some ⟨b, 0, none⟩), lnV x y] w fun e w' => e = .returned (.tuple #[]) ∧ HS w' b g cap (L ++ [(x, y)]) ∧ Ch b g w w' := by
  obtain ⟨i0, hi, hz0, hz1, hz2⟩ := info_parts infoLine
  have xb := h.box
  have f := h.fz
  have hb := block_lt xb
  have hg := h.own.lt
  have hne := h.ne
  have hO : Hid (∀ w2 : World, Below w.heap.size w w2 → OwnL w2 g L.length cap L) := fun w2 hb => (h.bel hb).own
  replace h := Lib.hid h
  generalize hk : L.length = n at *
  have ta := ta_line x y
  have hB1 : Hid (Below w.heap.size w (w.alloc (.cells #[.int .i64 x, .int .i64 y] 105)).drew) := ((Below.refl _ _).alloc (Nat.le_refl _) _).drew
  go_enter Tryz.func130, Tryz.ntmps130
  go_wp2_with fail
  go_region_law (first | ((refine step_append_fits rfl (.tmp 7) (.tmp 10) 103 rfl 0 105 i0 2 Tryz.underlying103 hi hz1 g n cap (flat L) rfl (hO.out _ hB1.out) ⟨w.heap.size, 0, none⟩ 1 1 [.int .i64 x, .int .i64 y] rfl rfl (pair_news (by simp) (by simp)) pair_one hc ?_); intro w3 ho3 hg3; have y3 := hg3.cell (kept hB1.out hb xb) (by simpa using hne); have f3 : w3.frozen? ⟨b, 0, none⟩ = false := (World.frozen?_of_block (hg3.block b (Nat.lt_of_lt_of_le hb hB1.out.size) (by simpa using hne))).trans ((World.frozen?_of_block (hB1.out.block b hb)).trans f); subst hk; have hp := h.out.pushed hB1.out ho3 hg3; obtain ⟨hp1, hp2⟩ := hp; clear ho3 hg3))
  all_goals
    go_wp2_with fail
    go_end0
    exact ⟨rfl, hp1.out, hp2.out⟩
end Go.Proofs.YtnfkafaolelkbaaGreatDoor

namespace Go.Proofs.YtnfkafaolelkbaaGreatDoor
set_option maxRecDepth 100000
open Go.RowKit

theorem HS.at {w : World} {b g cap N : Nat} {M : PL} (h : HS w b g cap M) (hl : M.length = N) : w.cell? ⟨b, 0, none⟩ = some (.slice (some ⟨g, 0, none⟩) N cap) := by subst hl; exact h.box
theorem less_at {w : World} {b g cap N p q : Nat} {M : PL} (h : HS w b g cap M) (hl : M.length = N) (hp : p < N) (hq : q < N) :
    Calls Tryz.prog 128 #[.slice (some ⟨g, 0, none⟩) N cap, .int .i64 p, .int .i64 q] w fun e w' => e = .returned (.bool (decide (les (pget M p) (pget M q)))) ∧ Below w.heap.size w w' := by
  subst hl; exact less_line h.own hp hq
theorem swap_at {w : World} {b g cap N p q : Nat} {M : PL} (h : HS w b g cap M) (hl : M.length = N) (hp : p < N) (hq : q < N) :
    Calls Tryz.prog 131 #[.slice (some ⟨g, 0, none⟩) N cap, .int .i64 p, .int .i64 q] w fun e w' => e = .returned (.tuple #[]) ∧ HS w' b g cap (pswap M p q) ∧ Ch b g w w' := by
  subst hl; exact swap_line h hp hq
/-- What down leaves. -/
def DownQ (w : World) (b g cap lo n : Nat) (L : PL) (e : Ending) (w' : World) : Prop := (∃ r : Bool, e = .returned (.bool r)) ∧ ∃ L', HS w' b g cap L' ∧ L'.Perm L ∧ (∀ q, n ≤ q → pget L' q = pget L q) ∧ HP L' n lo ∧ Ch b g w w'
set_option maxHeartbeats 4000000 in
theorem down_lib {b g cap lo n N : Nat} {L : PL} {w : World} (h : HS w b g cap L) (hN : L.length = N) (hn : n ≤ N) (h6 : N ≤ 13) (hlo : lo ≤ 13) (hH : HP L n (lo + 1)) :
    Calls Tryz.prog 83 #[hpV b, .int .i64 lo, .int .i64 n] w (DownQ w b g cap lo n L) := by
  have hD0 := Lib.hid (HD.start hH)
  replace h := Lib.hid h
  replace hN := Lib.hid hN
  have nL := na_Less ⟨b, 0, none⟩
  have nS := na_Swap ⟨b, 0, none⟩
  clear hH
  go_enter Tryz.func83, Tryz.ntmps83
  go_wp2_with fail
  go_loopw [7] (fun i wr => ∃ (k : Nat) (M : PL), lo ≤ k ∧ (k = lo ∨ k < n) ∧ i = .int .i64 k ∧ Hid (HD M n lo k) ∧ Hid (HS wr b g cap M) ∧ Hid (M.Perm L) ∧ Hid (∀ q, n ≤ q → pget M q = pget L q) ∧ Hid (Ch b g w wr)) (fun i _ => n + lo + 1 - (intOf i).toNat)
  case atStart => exact ⟨lo, L, Nat.le_refl _, .inl rfl, rfl, hD0, h, .refl _, fun _ _ => rfl, Ch.refl _ _ _⟩
  case round =>
    clear hD0 h
    obtain ⟨k, M, hk1, hk2, rfl, hD, hS1, hP, hK, hC1⟩ := hrel
    have lM := Lib.hid (hP.out.length_eq.trans hN.out)
    have hk13 : k ≤ 13 := by omega
    by_cases hlt : 2 * k + 1 < n
    case neg =>
      have hE := Lib.hid (hD.out.leaf (by omega))
      clear hD lM
      go_wp2_with fail
      go_ret
      exact ⟨⟨_, rfl⟩, M, hS1.out, hP.out, hK.out, hE.out, hC1.out⟩
    by_cases hl2 : 2 * k + 1 + 1 < n
    case neg =>
      have hj : Hid (∀ q, 0 < q → q < n → (q - 1) / 2 = k → ¬ les (pget M q) (pget M (2 * k + 1))) := fun q h1 h2 h3 => by
        have : q = 2 * k + 1 := by omega
        subst this; exact les_irr
      by_cases hl2 : les (pget M (2 * k + 1)) (pget M k)
      case neg =>
        have hE := Lib.hid (hD.out.stop hj.out hl2)
        have cL2 := Lib.hid (less_at hS1.out lM.out (p := 2 * k + 1) (q := k) (by omega) (by omega))
        rw [decide_eq_false hl2] at cL2
        have mL2 := me_Less (hS1.out.at lM.out)
        clear hl2 hD
        go_wp2_with fail
        refine cL2.out.mono ?_
        rintro e w2 ⟨rfl, hb2⟩
        have hS2 := Lib.hid (hS1.out.bel hb2)
        have hC2 := Lib.hid (hC1.out.trans (Ch.of hb2))
        clear hb2 mL2 cL2 hS1 hC1
        go_wp2_with fail
        go_ret
        exact ⟨⟨_, rfl⟩, M, hS2.out, hP.out, hK.out, hE.out, hC2.out⟩
      have hD2 := Lib.hid (hD.out.step (by omega) (Nat.le_trans hn (Nat.le_of_eq lM.out.symm)) (j := 2 * k + 1) (by omega) (by omega) (by omega) hj.out hl2)
      have cL2 := Lib.hid (less_at hS1.out lM.out (p := 2 * k + 1) (q := k) (by omega) (by omega))
      rw [decide_eq_true hl2] at cL2
      have mL2 := me_Less (hS1.out.at lM.out)
      clear hl2 hD
      go_wp2_with fail
      refine cL2.out.mono ?_
      rintro e w2 ⟨rfl, hb2⟩
      have hS2 := Lib.hid (hS1.out.bel hb2)
      have hC2 := Lib.hid (hC1.out.trans (Ch.of hb2))
      have mS2 := me_Swap (hS2.out.at lM.out)
      clear hb2 mL2 cL2 hS1 hC1
      go_wp2_with fail
      refine (swap_at hS2.out lM.out (p := k) (q := 2 * k + 1) (by omega) (by omega)).mono ?_
      rintro e w3 ⟨rfl, hS3, hC3⟩
      replace hS3 := Lib.hid hS3
      replace hC3 := Lib.hid (hC2.out.trans hC3)
      have hkM : k < M.length := by rw [lM.out]; omega
      have hjM : 2 * k + 1 < M.length := by rw [lM.out]; omega
      have hP3 := Lib.hid ((pswap_perm (L := M) (i := k) (j := 2 * k + 1) hkM hjM).trans hP.out)
      have hK3 : Hid (∀ q, n ≤ q → pget (pswap M k (2 * k + 1)) q = pget L q) := fun q hq => by rw [pswap_get hkM hjM, if_neg (by omega), if_neg (by omega)]; exact hK.out q hq
      clear mS2 hS2 hC2 hP hK hkM hjM lM
      go_wp2_with fail
      exact ⟨⟨2 * k + 1, _, by omega, by omega, by go_num, hD2, hS3, hP3, hK3, hC3⟩, by simp [intOf]; omega⟩
    by_cases hle : les (pget M (2 * k + 1 + 1)) (pget M (2 * k + 1))
    case neg =>
      have hj : Hid (∀ q, 0 < q → q < n → (q - 1) / 2 = k → ¬ les (pget M q) (pget M (2 * k + 1))) := fun q h1 h2 h3 => by
        by_cases e : q = 2 * k + 1
        · subst e; exact les_irr
        · have : q = 2 * k + 1 + 1 := by omega
          subst this; exact hle
      have cL1 := Lib.hid (less_at hS1.out lM.out (p := 2 * k + 1 + 1) (q := 2 * k + 1) (by omega) (by omega))
      rw [decide_eq_false hle] at cL1
      have mL1 := me_Less (hS1.out.at lM.out)
      clear hle
      go_wp2_with fail
      refine cL1.out.mono ?_
      rintro e w1 ⟨rfl, hb1⟩
      replace hS1 := Lib.hid (hS1.out.bel hb1)
      replace hC1 := Lib.hid (hC1.out.trans (Ch.of hb1))
      clear hb1 mL1 cL1
      by_cases hl2 : les (pget M (2 * k + 1)) (pget M k)
      case neg =>
        have hE := Lib.hid (hD.out.stop hj.out hl2)
        have cL2 := Lib.hid (less_at hS1.out lM.out (p := 2 * k + 1) (q := k) (by omega) (by omega))
        rw [decide_eq_false hl2] at cL2
        have mL2 := me_Less (hS1.out.at lM.out)
        clear hl2 hD
        go_wp2_with fail
        refine cL2.out.mono ?_
        rintro e w2 ⟨rfl, hb2⟩
        have hS2 := Lib.hid (hS1.out.bel hb2)
        have hC2 := Lib.hid (hC1.out.trans (Ch.of hb2))
        clear hb2 mL2 cL2 hS1 hC1
        go_wp2_with fail
        go_ret
        exact ⟨⟨_, rfl⟩, M, hS2.out, hP.out, hK.out, hE.out, hC2.out⟩
      have hD2 := Lib.hid (hD.out.step (by omega) (Nat.le_trans hn (Nat.le_of_eq lM.out.symm)) (j := 2 * k + 1) (by omega) (by omega) (by omega) hj.out hl2)
      have cL2 := Lib.hid (less_at hS1.out lM.out (p := 2 * k + 1) (q := k) (by omega) (by omega))
      rw [decide_eq_true hl2] at cL2
      have mL2 := me_Less (hS1.out.at lM.out)
      clear hl2 hD
      go_wp2_with fail
      refine cL2.out.mono ?_
      rintro e w2 ⟨rfl, hb2⟩
      have hS2 := Lib.hid (hS1.out.bel hb2)
      have hC2 := Lib.hid (hC1.out.trans (Ch.of hb2))
      have mS2 := me_Swap (hS2.out.at lM.out)
      clear hb2 mL2 cL2 hS1 hC1
      go_wp2_with fail
      refine (swap_at hS2.out lM.out (p := k) (q := 2 * k + 1) (by omega) (by omega)).mono ?_
      rintro e w3 ⟨rfl, hS3, hC3⟩
      replace hS3 := Lib.hid hS3
      replace hC3 := Lib.hid (hC2.out.trans hC3)
      have hkM : k < M.length := by rw [lM.out]; omega
      have hjM : 2 * k + 1 < M.length := by rw [lM.out]; omega
      have hP3 := Lib.hid ((pswap_perm (L := M) (i := k) (j := 2 * k + 1) hkM hjM).trans hP.out)
      have hK3 : Hid (∀ q, n ≤ q → pget (pswap M k (2 * k + 1)) q = pget L q) := fun q hq => by rw [pswap_get hkM hjM, if_neg (by omega), if_neg (by omega)]; exact hK.out q hq
      clear mS2 hS2 hC2 hP hK hkM hjM lM
      go_wp2_with fail
      exact ⟨⟨2 * k + 1, _, by omega, by omega, by go_num, hD2, hS3, hP3, hK3, hC3⟩, by simp [intOf]; omega⟩
    have hj : Hid (∀ q, 0 < q → q < n → (q - 1) / 2 = k → ¬ les (pget M q) (pget M (2 * k + 1 + 1))) := fun q h1 h2 h3 => by
      by_cases e : q = 2 * k + 1
      · subst e; exact les_asym hle
      · have : q = 2 * k + 1 + 1 := by omega
        subst this; exact les_irr
    have cL1 := Lib.hid (less_at hS1.out lM.out (p := 2 * k + 1 + 1) (q := 2 * k + 1) (by omega) (by omega))
    rw [decide_eq_true hle] at cL1
    have mL1 := me_Less (hS1.out.at lM.out)
    clear hle
    go_wp2_with fail
    refine cL1.out.mono ?_
    rintro e w1 ⟨rfl, hb1⟩
    replace hS1 := Lib.hid (hS1.out.bel hb1)
    replace hC1 := Lib.hid (hC1.out.trans (Ch.of hb1))
    clear hb1 mL1 cL1
    by_cases hl2 : les (pget M (2 * k + 1 + 1)) (pget M k)
    case neg =>
      have hE := Lib.hid (hD.out.stop hj.out hl2)
      have cL2 := Lib.hid (less_at hS1.out lM.out (p := 2 * k + 1 + 1) (q := k) (by omega) (by omega))
      rw [decide_eq_false hl2] at cL2
      have mL2 := me_Less (hS1.out.at lM.out)
      clear hl2 hD
      go_wp2_with fail
      refine cL2.out.mono ?_
      rintro e w2 ⟨rfl, hb2⟩
      have hS2 := Lib.hid (hS1.out.bel hb2)
      have hC2 := Lib.hid (hC1.out.trans (Ch.of hb2))
      clear hb2 mL2 cL2 hS1 hC1
      go_wp2_with fail
      go_ret
      exact ⟨⟨_, rfl⟩, M, hS2.out, hP.out, hK.out, hE.out, hC2.out⟩
    have hD2 := Lib.hid (hD.out.step (by omega) (Nat.le_trans hn (Nat.le_of_eq lM.out.symm)) (j := 2 * k + 1 + 1) (by omega) (by omega) (by omega) hj.out hl2)
    have cL2 := Lib.hid (less_at hS1.out lM.out (p := 2 * k + 1 + 1) (q := k) (by omega) (by omega))
    rw [decide_eq_true hl2] at cL2
    have mL2 := me_Less (hS1.out.at lM.out)
    clear hl2 hD
    go_wp2_with fail
    refine cL2.out.mono ?_
    rintro e w2 ⟨rfl, hb2⟩
    have hS2 := Lib.hid (hS1.out.bel hb2)
    have hC2 := Lib.hid (hC1.out.trans (Ch.of hb2))
    have mS2 := me_Swap (hS2.out.at lM.out)
    clear hb2 mL2 cL2 hS1 hC1
    go_wp2_with fail
    refine (swap_at hS2.out lM.out (p := k) (q := 2 * k + 1 + 1) (by omega) (by omega)).mono ?_
    rintro e w3 ⟨rfl, hS3, hC3⟩
    replace hS3 := Lib.hid hS3
    replace hC3 := Lib.hid (hC2.out.trans hC3)
    have hkM : k < M.length := by rw [lM.out]; omega
    have hjM : 2 * k + 1 + 1 < M.length := by rw [lM.out]; omega
    have hP3 := Lib.hid ((pswap_perm (L := M) (i := k) (j := 2 * k + 1 + 1) hkM hjM).trans hP.out)
    have hK3 : Hid (∀ q, n ≤ q → pget (pswap M k (2 * k + 1 + 1)) q = pget L q) := fun q hq => by rw [pswap_get hkM hjM, if_neg (by omega), if_neg (by omega)]; exact hK.out q hq
    clear mS2 hS2 hC2 hP hK hkM hjM lM
    go_wp2_with fail
    exact ⟨⟨2 * k + 1 + 1, _, by omega, by omega, by go_num, hD2, hS3, hP3, hK3, hC3⟩, by simp [intOf]; omega⟩
set_option maxHeartbeats 4000000 in
theorem up_lib {b g cap j N : Nat} {L : PL} {w : World} (h : HS w b g cap L) (hN : L.length = N) (hj : j < N) (h6 : N ≤ 13) (hH : HU L N j) :
    Calls Tryz.prog 84 #[hpV b, .int .i64 j] w fun e w' => e = .returned (.tuple #[]) ∧ ∃ L', HS w' b g cap L' ∧ L'.Perm L ∧ HP L' N 0 ∧ Ch b g w w' := by
  replace hH := Lib.hid hH
  replace h := Lib.hid h
  replace hN := Lib.hid hN
  have nL := na_Less ⟨b, 0, none⟩
  have nS := na_Swap ⟨b, 0, none⟩
  go_enter Tryz.func84, Tryz.ntmps84
  go_wp2_with fail
  go_loopw [1] (fun i wr => ∃ (k : Nat) (M : PL), k < N ∧ i = .int .i64 k ∧ Hid (HU M N k) ∧ Hid (HS wr b g cap M) ∧ Hid (M.Perm L) ∧ Hid (Ch b g w wr)) (fun i _ => (intOf i).toNat)
  case atStart => exact ⟨j, L, hj, rfl, hH, h, .refl _, Ch.refl _ _ _⟩
  case round =>
    clear hH h
    obtain ⟨k, M, hk, rfl, hU, hS1, hP, hC1⟩ := hrel
    have lM := Lib.hid (hP.out.length_eq.trans hN.out)
    by_cases hk0 : k = 0
    · subst hk0
      have hE := Lib.hid hU.out.root
      clear hU lM
      go_wp2_with fail
      go_end0
      exact ⟨rfl, M, hS1.out, hP.out, hE.out, hC1.out⟩
    obtain ⟨m, rfl⟩ : ∃ m, k = m + 1 := ⟨k - 1, by omega⟩
    have i1 : IntKind.i64.wrap (((m + 1 : Nat) : Int) - 1) = (m : Int) := by rw [IntKind.wrap_i64]; omega
    have i1' : wrap64 (((m + 1 : Nat) : Int) - 1) = (m : Int) := by unfold wrap64; omega
    have i2 : (m : Int) / 2 = ((m / 2 : Nat) : Int) := by rw [Int.natCast_ediv]; rfl
    have i3 : (m : Int).tdiv 2 = ((m / 2 : Nat) : Int) := by rw [Int.tdiv_eq_ediv_of_nonneg (by omega)]; exact i2
    have hne : (((m / 2 : Nat) : Int) == ((m + 1 : Nat) : Int)) = false := by simp; omega
    obtain ⟨q, hq⟩ : ∃ q, m / 2 = q := ⟨_, rfl⟩
    have hqm : q ≤ m := by omega
    have hq2 : (m + 1 - 1) / 2 = q := by omega
    rw [hq] at i2 i3 hne
    replace hq := Lib.hid hq
    replace hq2 := Lib.hid hq2
    by_cases hl2 : les (pget M (m + 1)) (pget M q)
    case neg =>
      have hE := hU.out.stop (by rw [hq2.out]; exact hl2)
      replace hE := Lib.hid hE
      have cL2 := Lib.hid (less_at hS1.out lM.out (p := m + 1) (q := q) (by omega) (by omega))
      rw [decide_eq_false hl2] at cL2
      have mL2 := me_Less (hS1.out.at lM.out)
      clear hl2 hU
      go_wp2_with fail
      refine cL2.out.mono ?_
      rintro e w2 ⟨rfl, hb2⟩
      have hS2 := Lib.hid (hS1.out.bel hb2)
      have hC2 := Lib.hid (hC1.out.trans (Ch.of hb2))
      clear hb2 mL2 cL2 hS1 hC1
      go_wp2_with fail
      go_end0
      exact ⟨rfl, M, hS2.out, hP.out, hE.out, hC2.out⟩
    have hU2 := hU.out.step (Nat.le_of_eq lM.out.symm) (by omega) hk (by rw [hq2.out]; exact hl2)
    rw [hq2.out] at hU2
    replace hU2 := Lib.hid hU2
    have cL2 := Lib.hid (less_at hS1.out lM.out (p := m + 1) (q := q) (by omega) (by omega))
    rw [decide_eq_true hl2] at cL2
    have mL2 := me_Less (hS1.out.at lM.out)
    clear hl2 hU
    go_wp2_with fail
    refine cL2.out.mono ?_
    rintro e w2 ⟨rfl, hb2⟩
    have hS2 := Lib.hid (hS1.out.bel hb2)
    have hC2 := Lib.hid (hC1.out.trans (Ch.of hb2))
    have mS2 := me_Swap (hS2.out.at lM.out)
    clear hb2 mL2 cL2 hS1 hC1
    go_wp2_with fail
    refine (swap_at hS2.out lM.out (p := q) (q := m + 1) (by omega) (by omega)).mono ?_
    rintro e w3 ⟨rfl, hS3, hC3⟩
    replace hS3 := Lib.hid hS3
    replace hC3 := Lib.hid (hC2.out.trans hC3)
    have hP3 := Lib.hid ((pswap_perm (L := M) (i := q) (j := m + 1) (by rw [lM.out]; omega) (by rw [lM.out]; omega)).trans hP.out)
    clear mS2 hS2 hC2 hP lM
    go_wp2_with fail
    exact ⟨⟨q, _, by omega, by go_num, hU2, hS3, hP3, hC3⟩, by simp [intOf]; omega⟩
end Go.Proofs.YtnfkafaolelkbaaGreatDoor

namespace Go.Proofs.YtnfkafaolelkbaaGreatDoor
set_option maxRecDepth 100000
open Go.RowKit

theorem HP.onward {L : PL} {n lo lo2 : Nat} (h : HP L n lo) (hl : lo ≤ lo2) : HP L n lo2 := fun k hk hkn h2 => h k hk hkn (by omega)
theorem pget_take {L : PL} {n k : Nat} (hk : k < n) : pget (L.take n) k = pget L k := by
  unfold pget; rw [List.getD_eq_getElem?_getD, List.getElem?_take_of_lt hk, ← List.getD_eq_getElem?_getD]
theorem pget_app {L M : PL} {k : Nat} (hk : k < L.length) : pget (L ++ M) k = pget L k := by
  unfold pget; rw [List.getD_eq_getElem?_getD, List.getElem?_append_left hk, ← List.getD_eq_getElem?_getD]
theorem take_last {L : PL} {n : Nat} (h : L.length = n + 1) : L = L.take n ++ [pget L n] := by
  rw [pget_elem (by omega)]
  conv => lhs; rw [← List.take_append_drop n L]
  rw [List.drop_eq_getElem_cons (by omega), List.drop_of_length_le (by omega)]

set_option maxHeartbeats 2000000 in
theorem init_lib {b g cap N : Nat} {L : PL} {w : World} (h : HS w b g cap L) (hN : L.length = N) (h6 : N ≤ 13) :
    Calls Tryz.prog 69 #[hpV b] w fun e w' => e = .returned (.tuple #[]) ∧ ∃ L', HS w' b g cap L' ∧ L'.Perm L ∧ HP L' N 0 ∧ Ch b g w w' := by
  have hP0 := Lib.hid (HP.start L N (lo := N / 2) (Nat.le_refl _))
  have mL := me_Len (h.at hN)
  have nL := na_Len ⟨b, 0, none⟩
  have i2 : (N : Int) / 2 = ((N / 2 : Nat) : Int) := by rw [Int.natCast_ediv]; rfl
  have i3 : (N : Int).tdiv 2 = ((N / 2 : Nat) : Int) := by rw [Int.tdiv_eq_ediv_of_nonneg (by omega)]; exact i2
  obtain ⟨k0, hk0⟩ : ∃ k, N / 2 = k := ⟨_, rfl⟩
  have hkN : k0 ≤ N := by omega
  rw [hk0] at i2 i3 hP0
  replace h := Lib.hid h
  replace hN := Lib.hid hN
  clear hk0
  go_enter Tryz.func69, Tryz.ntmps69
  go_wp2_with fail
  refine (len_line _ _ _ _).mono ?_
  rintro e w1 ⟨rfl, rfl⟩
  go_wp2_with fail
  go_loopw [3] (fun i wr => ∃ (k : Nat) (M : PL), k ≤ k0 ∧ i = .int .i64 ((k : Int) - 1) ∧ Hid (HP M N k) ∧ Hid (HS wr b g cap M) ∧ Hid (M.Perm L) ∧ Hid (Ch b g w wr)) (fun i _ => (intOf i + 1).toNat)
  case atStart => exact ⟨k0, L, Nat.le_refl _, by go_num, hP0, h, .refl _, Ch.refl _ _ _⟩
  case round =>
    clear hP0 h mL
    obtain ⟨k, M, hk, rfl, hH, hS, hP, hC⟩ := hrel
    have lM := Lib.hid (hP.out.length_eq.trans hN.out)
    by_cases hz : k = 0
    · subst hz
      clear lM
      go_wp2_with fail
      go_end0
      exact ⟨rfl, M, hS.out, hP.out, hH.out, hC.out⟩
    obtain ⟨m, rfl⟩ : ∃ m, k = m + 1 := ⟨k - 1, by omega⟩
    have e1 : (((m + 1 : Nat) : Int) - 1) = (m : Int) := by omega
    rw [e1]
    clear e1
    go_wp2_with fail
    refine (down_lib hS.out lM.out (lo := m) (n := N) (Nat.le_refl _) h6 (by omega) hH.out).mono ?_
    rintro e w2 ⟨⟨r, rfl⟩, M2, hS2, hP2, _, hH2, hC2⟩
    replace hS2 := Lib.hid hS2
    replace hH2 := Lib.hid hH2
    replace hP2 := Lib.hid (hP2.trans hP.out)
    replace hC2 := Lib.hid (hC.out.trans hC2)
    clear hS hH hP hC lM
    go_wp2_with fail
    exact ⟨⟨m, M2, by omega, by go_num, hH2, hS2, hP2, hC2⟩, by simp [intOf]⟩

set_option maxHeartbeats 2000000 in
theorem hpop_lib {b g cap n : Nat} {L : PL} {w : World} (h : HS w b g cap L) (hN : L.length = n + 1) (h6 : n + 1 ≤ 13) (hH : HP L (n + 1) 0) :
    Calls Tryz.prog 70 #[hpV b] w fun e w' => ∃ (x : Int × Int) (L' : PL), e = .returned (lnV x.1 x.2) ∧ HS w' b g cap L' ∧ (x :: L').Perm L ∧ (∀ p ∈ L, ¬ les p x) ∧ HP L' n 0 ∧ Ch b g w w' := by
  have hne : L ≠ [] := by intro e; rw [e] at hN; simp at hN
  have h0 : (0 : Nat) < L.length := by omega
  have hnL : n < L.length := by omega
  have gs := pswap_get (L := L) (i := 0) (j := n) h0 hnL
  have hmin : Hid (∀ p ∈ L, ¬ les p (pget L 0)) := fun p hp => by
    obtain ⟨k, hk, rfl⟩ := List.getElem_of_mem hp
    rw [← pget_elem hk]; exact hH.top k (by omega)
  have hH1 : Hid (HP (pswap L 0 n) n (0 + 1)) := (HP.less (HP.onward hH (Nat.zero_le 1)) (Nat.le_succ n)).same fun k hk hl => by rw [gs, if_neg (by omega), if_neg (by omega)]
  have hx : pget (pswap L 0 n) n = pget L 0 := by rw [gs, if_pos rfl]
  have hP1 := Lib.hid (pswap_perm h0 hnL)
  have lS : Hid ((pswap L 0 n).length = n + 1) := (pswap_len _ _ _).trans hN
  have mL := me_Len (h.at hN)
  have nL := na_Len ⟨b, 0, none⟩
  have nS := na_Swap ⟨b, 0, none⟩
  have nP := na_Pop ⟨b, 0, none⟩
  have mP := me_Pop ⟨b, 0, none⟩
  replace h := Lib.hid h
  replace hN := Lib.hid hN
  replace hx := Lib.hid hx
  have i1 : IntKind.i64.wrap (((n + 1 : Nat) : Int) - 1) = (n : Int) := by rw [IntKind.wrap_i64]; omega
  have i2 : wrap64 (((n + 1 : Nat) : Int) - 1) = (n : Int) := by unfold wrap64; omega
  have mS := me_Swap (h.out.at hN.out)
  clear gs hH hne hnL h0
  go_enter Tryz.func70, Tryz.ntmps70
  go_wp2_with fail
  refine (len_line _ _ _ _).mono ?_
  rintro e w1 ⟨rfl, rfl⟩
  go_wp2_with fail
  refine (swap_at h.out hN.out (p := 0) (q := n) (by omega) (by omega)).mono ?_
  rintro e w2 ⟨rfl, hS2, hC2⟩
  replace hS2 := Lib.hid hS2
  replace hC2 := Lib.hid hC2
  clear mL mS h
  go_wp2_with fail
  refine (down_lib hS2.out lS.out (lo := 0) (n := n) (by omega) h6 (by omega) hH1.out).mono ?_
  rintro e w3 ⟨⟨r, rfl⟩, M, hS3, hP3, hK3, hH3, hC3⟩
  have lM : M.length = n + 1 := hP3.length_eq.trans lS.out
  have hxM : pget M n = pget L 0 := (hK3 n (Nat.le_refl _)).trans hx.out
  have hPf := Lib.hid (hP3.trans hP1.out)
  have hHf : Hid (HP (M.take n) n 0) := hH3.same fun k hk _ => pget_take hk
  have hPx : Hid ((pget L 0 :: M.take n).Perm M) := by
    have e := (List.perm_append_singleton (pget M n) (M.take n)).symm
    rw [← take_last lM, hxM] at e
    exact e
  replace hS3 := Lib.hid hS3
  replace hC3 := Lib.hid (hC2.out.trans hC3)
  have cP := Lib.hid (pop_line hS3.out lM (by omega))
  rw [hxM] at cP
  clear hP3 hK3 hH3 hS2 hC2 lM hxM
  go_wp2_with fail
  refine cP.out.mono ?_
  rintro e w4 ⟨rfl, hS4, hC4⟩
  replace hS4 := Lib.hid hS4
  replace hC4 := Lib.hid (hC3.out.trans hC4)
  clear cP hS3 hC3
  go_wp2_with fail
  go_ret
  exact ⟨_, _, rfl, hS4.out, hPx.out.trans hPf.out, hmin.out, hHf.out, hC4.out⟩

set_option maxHeartbeats 2000000 in
theorem hpush_lib {b g cap N : Nat} {L : PL} {x y : Int} {w : World} (h : HS w b g cap L) (hN : L.length = N) (h6 : N + 1 ≤ 13) (hc : N + 1 ≤ cap) (hH : HP L N 0) :
    Calls Tryz.prog 71 #[hpV b, lnV x y] w fun e w' => e = .returned (.tuple #[]) ∧ ∃ L', HS w' b g cap L' ∧ L'.Perm ((x, y) :: L) ∧ HP L' (N + 1) 0 ∧ Ch b g w w' := by
  have hU : Hid (HU (L ++ [(x, y)]) (N + 1) N) := HU.start (hH.same fun k hk _ => pget_app (by omega))
  have hP : Hid ((L ++ [(x, y)]).Perm ((x, y) :: L)) := List.perm_append_singleton _ _
  have lA : Hid ((L ++ [(x, y)]).length = N + 1) := by show (L ++ [(x, y)]).length = N + 1; simp [hN]
  have nL := na_Len ⟨b, 0, none⟩
  have nP := na_Push ⟨b, 0, none⟩
  have mP := me_Push ⟨b, 0, none⟩
  have cP := Lib.hid (push_line (x := x) (y := y) h (by rw [hN]; exact hc))
  have i1 : IntKind.i64.wrap (((N + 1 : Nat) : Int) - 1) = (N : Int) := by rw [IntKind.wrap_i64]; omega
  have i2 : wrap64 (((N + 1 : Nat) : Int) - 1) = (N : Int) := by unfold wrap64; omega
  clear h hN hH
  go_enter Tryz.func71, Tryz.ntmps71
  go_wp2_with fail
  refine cP.out.mono ?_
  rintro e w1 ⟨rfl, hS1, hC1⟩
  have mL := me_Len (hS1.at lA.out)
  replace hS1 := Lib.hid hS1
  replace hC1 := Lib.hid hC1
  clear cP
  go_wp2_with fail
  refine (len_line _ _ _ _).mono ?_
  rintro e w2 ⟨rfl, rfl⟩
  go_wp2_with fail
  refine (up_lib hS1.out lA.out (j := N) (by omega) h6 hU.out).mono ?_
  rintro e w3 ⟨rfl, M, hS3, hP3, hH3, hC3⟩
  replace hS3 := Lib.hid hS3
  replace hC3 := Lib.hid (hC1.out.trans hC3)
  replace hP3 := Lib.hid (hP3.trans hP.out)
  replace hH3 := Lib.hid hH3
  clear hS1 hC1 mL
  go_wp2_with fail
  go_end0
  exact ⟨rfl, M, hS3.out, hP3.out, hH3.out, hC3.out⟩
end Go.Proofs.YtnfkafaolelkbaaGreatDoor

namespace Go.Proofs.YtnfkafaolelkbaaGreatDoor
set_option maxRecDepth 100000
open Go.RowKit

/-- The lines of a function. -/
def lns (f : Nat → Int) (n : Nat) : PL := (List.range n).map (pr f)
theorem lns_len (f : Nat → Int) (n : Nat) : (lns f n).length = n := by simp [lns]
theorem lns_get {f : Nat → Int} {n k : Nat} (hk : k < n) : pget (lns f n) k = ((k : Int), f k) := by
  rw [pget_elem (by rw [lns_len]; exact hk)]; simp [lns, pr]
/-- The lines as far as a place. -/
def lnsM (f : Nat → Int) (n j : Nat) : PL := (List.range n).map fun i => if i < j then ((i : Int), f i) else (0, 0)
theorem lnsM_len (f : Nat → Int) (n j : Nat) : (lnsM f n j).length = n := by simp [lnsM]
theorem lnsM_zero (f : Nat → Int) (n : Nat) : lnsM f n 0 = List.replicate n (0, 0) := by
  apply List.ext_getElem (by simp [lnsM])
  intro i h1 h2; simp [lnsM]
theorem lnsM_set {f : Nat → Int} {n j : Nat} : (lnsM f n j).set j ((j : Int), f j) = lnsM f n (j + 1) := by
  apply List.ext_getElem (by simp [lnsM])
  intro i h1 h2
  rw [List.getElem_set]
  by_cases e : j = i
  · subst e; simp [lnsM]
  · rw [if_neg e]; simp only [lnsM, List.getElem_map, List.getElem_range]
    by_cases e2 : i < j
    · rw [if_pos e2, if_pos (by omega)]
    · rw [if_neg e2, if_neg (by omega)]
theorem lnsM_full (f : Nat → Int) (n : Nat) : lnsM f n n = lns f n := by
  unfold lnsM lns
  exact List.map_congr_left fun i hi => by rw [List.mem_range] at hi; rw [if_pos hi]; rfl

theorem made_two (n : Nat) : (madeCells (Value.agg #[.int .i64 0, .int .i64 0]).cells (n * 2)).toList = List.replicate (n * 2) (.int .i64 0) := by
  apply List.ext_getElem?
  intro j
  by_cases hj : j < n * 2
  · rcases Nat.mod_two_eq_zero_or_one j with e | e <;> simp [madeCells, hj, Value.cells, e]
  · simp [madeCells, hj]
theorem own_made {w w1 : World} {n : Nat} (ho : w1.ownsRow 0 105 2 (.slice (some ⟨w.heap.size, 0, none⟩) n n) n (madeCells (Value.agg #[.int .i64 0, .int .i64 0]).cells (n * 2)).toList) : OwnL w1 w.heap.size n n (List.replicate n (0, 0)) := by
  rw [made_two] at ho; unfold OwnL; rw [fl_zero]; exact ho

set_option maxHeartbeats 2000000 in
theorem lines_of (a : Option Addr) (n cap : Nat) (xs : List Int) (w : World) (h : Row w a n xs) (h6 : n ≤ 13) :
    Calls Tryz.prog 49 #[.slice a n cap] w fun e w' => ∃ (b g : Nat) (L : PL), e = .returned (.pointer (some ⟨b, 0, none⟩)) ∧ w.heap.size ≤ b ∧ b < w'.heap.size ∧ w.heap.size ≤ g ∧ g < w'.heap.size ∧ HS w' b g n L ∧ L.Perm (lns (fun i => xs.getD i 0) n) ∧ HP L n 0 ∧ Below w.heap.size w w' := by
  obtain ⟨i0, hi, hz0, hz1, hz2⟩ := info_parts infoLine
  have h := Lib.hid h
  go_enter Tryz.func49, Tryz.ntmps49
  go_wp2_with ((refine wpList_make_full w rfl _ _ 103 rfl 0 105 i0 (.agg #[.int .i64 0, .int .i64 0]) 2 Tryz.underlying103 hi hz0 hz1 .i64 .i64 n n n rfl rfl rfl rfl ?_ ?_ (Nat.zero_le _) ?_))
  all_goals first | omega | (rw [hz2]; omega) | (unfold maxLen; omega) | skip
  intro w1 ho hg
  have hO := own_made ho
  have hb1 : Below w.heap.size w w1 := (Below.refl _ _).grown hg (Nat.le_refl _) (fun k hk => by cases hk)
  have hgl := hO.lt
  have hz := hb1.size
  have hS0 : Hid (HS (w1.alloc (.cells #[.slice (some ⟨w.heap.size, 0, none⟩) n n] 103)) w1.heap.size w.heap.size n (lnsM (fun i => xs.getD i 0) n 0)) := by
    rw [lnsM_zero]
    have ln : (List.replicate n ((0 : Int), (0 : Int))).length = n := List.length_replicate
    refine ⟨by rw [ln]; simp, by rw [ln]; exact hO.kept (below_grown ((Below.refl _ _).alloc (Nat.le_refl _) _) none) (by simp), by simp, by omega⟩
  have hB0 : Hid (Below w.heap.size w (w1.alloc (.cells #[.slice (some ⟨w.heap.size, 0, none⟩) n n] 103))) := hb1.alloc hb1.size _
  clear ho hg hO hb1
  go_wp2_with fail
  generalize hb : w1.heap.size = b at *
  generalize hg : w.heap.size = g at *
  go_loopw [11] (fun i wr => ∃ j : Nat, j ≤ n ∧ i = .int .i64 j ∧ Hid (HS wr b g n (lnsM (fun i => xs.getD i 0) n j)) ∧ Hid (Below g w wr)) (fun i _ => n - (intOf i).toNat)
  case atStart => exact ⟨0, Nat.zero_le _, rfl, hS0, hB0⟩
  case round =>
    obtain ⟨j, hj, rfl, hS, hB⟩ := hrel
    clear hS0 hB0
    by_cases hlt : j < n
    · obtain ⟨b1, o1, rfl, hc⟩ := row_at (h.out.bel (by rw [hg]; exact hB.out)) hlt
      have ln := lnsM_len (fun i => xs.getD i 0) n j
      have x := hS.out.at ln
      have hO := hS.out.own
      rw [ln] at hO
      have c0 := hO.c0 hlt
      have c1 := hO.c1 hlt
      have f0 := hO.frozen
      have hst := hO.set j (j : Int) (xs.getD j 0)
      rw [lnsM_set] at hst
      have hgr : wr.grownBy ((wr.setCell ⟨g, j * 2, none⟩ (.int .i64 j)).setCell ⟨g, j * 2 + 1, none⟩ (.int .i64 (xs.getD j 0))) (some g) := grown_set (grown_set (World.grownBy.refl _ _))
      have hS2 := Lib.hid (hS.out.stored (by rw [ln]; exact hst) ((lnsM_len _ _ _).trans ln.symm) hgr)
      have hB2 := Lib.hid ((hB.out.setCell (show g ≤ (⟨g, j * 2, none⟩ : Addr).block by simp) (.int .i64 j)).setCell (show g ≤ (⟨g, j * 2 + 1, none⟩ : Addr).block by simp) (.int .i64 (xs.getD j 0)))
      generalize (pget (lnsM (fun i => xs.getD i 0) n j) j).1 = y0 at c0
      generalize (pget (lnsM (fun i => xs.getD i 0) n j) j).2 = y1 at c1
      obtain ⟨v, hv⟩ : ∃ v, xs.getD j 0 = v := ⟨_, rfl⟩
      rw [hv] at hc hS2 hB2
      clear hS hB hO hst hgr ln hv
      go_wp2_with fail
      exact ⟨⟨j + 1, by omega, by go_num, hS2, hB2⟩, by simp [intOf]; omega⟩
    · have : j = n := by omega
      subst this
      rw [lnsM_full] at hS
      have lL := lns_len (fun i => xs.getD i 0) j
      replace lL := Lib.hid lL
      go_wp2_with fail
      refine (init_lib hS.out lL.out h6).mono ?_
      rintro e w2 ⟨rfl, L, hS2, hP2, hH2, hC2⟩
      have z2 := block_lt hS2.box
      have z3 := hS2.own.lt
      have hBz := hB.out.size
      rw [hg] at hBz
      replace hB := Lib.hid (hB.out.trans (hC2.below hBz (by omega) (by omega)))
      clear hC2
      replace hS2 := Lib.hid hS2
      replace hP2 := Lib.hid hP2
      replace hH2 := Lib.hid hH2
      go_wp2_with fail
      go_ret
      exact ⟨b, g, L, rfl, by omega, z2, by omega, z3, hS2.out, hP2.out, hH2.out, by rw [hg]; exact hB.out⟩

theorem Ch.setNew {b g k : Nat} {w w' : World} (h : Ch b g w w') (hk : w.heap.size ≤ k) (j : Nat) (v : Value) : Ch b g w (w'.setCell ⟨k, j, none⟩ v) :=
  ⟨h.os, h.tape, h.output, by simpa [World.setCell] using h.size, fun q hq h1 h2 => (Below.heap_setCell _ _ _ _ (show q ≠ k by omega)).trans (h.block q hq h1 h2)⟩
theorem HS.stored_far {w w' : World} {b g cap k : Nat} {L : PL} (h : HS w b g cap L) (hg : w.grownBy w' (some k)) (h1 : k ≠ b) (h2 : k ≠ g) : HS w' b g cap L :=
  ⟨hg.cell h.box (by simpa using Ne.symm h1), h.own.kept hg (by simpa using Ne.symm h2), by rw [World.frozen?_of_block (hg.block b (block_lt h.box) (by simpa using Ne.symm h1))]; exact h.fz, h.ne⟩
/-- The indexes taken. -/
def ix (I : List Nat) (c : Nat) : List Int := rowsL (fun k => ((I.getD k 0 : Nat) : Int)) c
theorem nat_app {I : List Nat} {i k : Nat} : (I ++ [i]).getD k 0 = if k = I.length then i else I.getD k 0 := by
  rw [List.getD_eq_getElem?_getD, List.getD_eq_getElem?_getD]
  by_cases e : k < I.length
  · rw [List.getElem?_append_left e, if_neg (by omega)]
  · by_cases e2 : k = I.length
    · subst e2; simp
    · rw [if_neg e2, List.getElem?_eq_none (by simp; omega), List.getElem?_eq_none (by omega)]
theorem ix_nil (c : Nat) : ix [] c = List.replicate c 0 := by rw [← rows_zero]; exact rows_ext fun _ _ => rfl
theorem ix_set {I : List Nat} {i c : Nat} (h : I.length < c) : (ix I c).set I.length (i : Int) = ix (I ++ [i]) c :=
  rows_set _ _ h (by rw [nat_app, if_pos rfl]) fun k _ hne => by rw [nat_app, if_neg hne]
theorem ix_get {I : List Nat} {c k : Nat} (hk : k < c) : (ix I c).getD k 0 = ((I.getD k 0 : Nat) : Int) := rows_get (fun k => ((I.getD k 0 : Nat) : Int)) hk
theorem ix_len (I : List Nat) (c : Nat) : (ix I c).length = c := rows_len _ _
/-- The lines taken. -/
def tk (f : Nat → Int) (I : List Nat) (c : Nat) : PL := (List.range c).map fun k => if k < I.length then pr f (I.getD k 0) else (0, 0)
theorem tk_len (f : Nat → Int) (I : List Nat) (c : Nat) : (tk f I c).length = c := by simp [tk]
theorem tk_nil (f : Nat → Int) (c : Nat) : tk f [] c = List.replicate c (0, 0) := by
  apply List.ext_getElem (by simp [tk])
  intro i h1 h2; simp [tk]
theorem tk_get {f : Nat → Int} {I : List Nat} {c k : Nat} (hk : k < c) (hI : k < I.length) : pget (tk f I c) k = pr f (I.getD k 0) := by
  rw [pget_elem (by rw [tk_len]; exact hk)]; simp only [tk, List.getElem_map, List.getElem_range]; rw [if_pos hI]
theorem tk_set {f : Nat → Int} {I : List Nat} {i c : Nat} : (tk f I c).set I.length (pr f i) = tk f (I ++ [i]) c := by
  apply List.ext_getElem (by simp [tk])
  intro k h1 h2
  rw [List.getElem_set]
  simp only [tk, List.getElem_map, List.getElem_range]
  by_cases e : I.length = k
  · subst e; rw [if_pos rfl, if_pos (by simp), nat_app, if_pos rfl]
  · rw [if_neg e, nat_app, if_neg (Ne.symm e)]
    by_cases e2 : k < I.length
    · rw [if_pos e2, if_pos (by simp; omega)]
    · rw [if_neg e2, if_neg (by simp; omega)]
theorem back_perm {f : Nat → Int} {I J : List Nat} {m : Nat} {M M' : PL} (hm : m < I.length) (h : M.Perm ((I.take m).map (fun k : Nat => ((k : Int), f k - 1)) ++ J.map (pr f))) (h' : M'.Perm ((((I.getD m 0 : Nat) : Int), f (I.getD m 0) - 1) :: M)) :
    M'.Perm ((I.take (m + 1)).map (fun k : Nat => ((k : Int), f k - 1)) ++ J.map (pr f)) := by
  have e : I.getD m 0 = I[m] := by simp [hm]
  rw [e] at h'
  refine h'.trans ((h.cons _).trans ?_)
  rw [List.take_succ_eq_append_getElem hm, List.map_append, List.append_assoc]
  exact (List.perm_middle).symm

/-- What take leaves. -/
def TakeQ (w : World) (b g cap n c : Nat) (f : Nat → Int) (e : Ending) (w' : World) : Prop :=
  ∃ (q : Nat) (I : List Nat) (L : PL), e = .returned (.slice (some ⟨q, 0, none⟩) c c) ∧ OwnI w' w.heap.size (some ⟨q, 0, none⟩) c c (ix I c) ∧ I.length = c ∧ (∀ k ∈ I, k < n) ∧ (∀ k, k < n → (k ∈ I ↔ chB f n c k = true)) ∧
    HS w' b g cap L ∧ L.Perm (lns (fun i => f i - chI f n c i) n) ∧ HP L n 0 ∧ Ch b g w w'
set_option maxHeartbeats 4000000 in
theorem take_lib {b g cap n c : Nat} {f : Nat → Int} {L : PL} {w : World} (h : HS w b g cap L) (hP : L.Perm (lns f n)) (hH : HP L n 0) (hc : c ≤ n) (hn : n ≤ 6) (hcap : n ≤ cap) (hf : ∀ i, i < n → -100 ≤ f i ∧ f i ≤ 100) :
    Calls Tryz.prog 50 #[.pointer (some ⟨b, 0, none⟩), .int .i64 c] w (TakeQ w b g cap n c f) := by
  obtain ⟨i0, hi, hz0, hz1, hz2⟩ := info_parts infoLine
  obtain ⟨i1, ii, iz0, iz1, iz2⟩ := info_parts infoInt
  have hbl := block_lt h.box
  have hgl := h.own.lt
  have hbg := h.ne
  have hP := Lib.hid hP
  have hH := Lib.hid hH
  have hf := Lib.hid hf
  replace h := Lib.hid h
  go_enter Tryz.func50, Tryz.ntmps50
  go_wp2_with ((refine wpList_make_full w rfl _ _ 23 rfl w.heap.size 3 i1 (.int .i64 0) 1 Tryz.underlying23 ii iz0 iz1 .i64 .i64 c c c rfl rfl rfl rfl ?_ ?_ (Nat.le_refl _) ?_))
  all_goals first | omega | (rw [iz2]; omega) | (unfold maxLen; omega) | skip
  intro w1 ho hg
  have ho0 : OwnI w1 w.heap.size (some ⟨w.heap.size, 0, none⟩) c c (ix [] c) := by
    rw [ix_nil]; unfold OwnI; simpa [toList_madeCells_one, List.map_replicate] using ho
  have hb1 : Below w.heap.size w w1 := (Below.refl _ _).grown hg (Nat.le_refl _) (fun k hk => by cases hk)
  have hl1 := (World.ownsRow.lt ho0 _ rfl).2
  replace h := Lib.hid (h.out.bel hb1)
  have hC1 := Lib.hid (Ch.of (b := b) (g := g) hb1)
  replace ho0 := Lib.hid ho0
  clear ho hg hb1
  go_wp2_with ((refine wpList_make_full w1 rfl _ _ 102 rfl 0 105 i0 (.agg #[.int .i64 0, .int .i64 0]) 2 Tryz.underlying102 hi hz0 hz1 .i64 .i64 c c c rfl rfl rfl rfl ?_ ?_ (Nat.zero_le _) ?_))
  all_goals first | omega | (rw [hz2]; omega) | (unfold maxLen; omega) | skip
  intro w2 ho hg
  have hT0 : OwnL w2 w1.heap.size c c (tk f [] c) := by rw [tk_nil]; exact own_made ho
  have hb2 : Below w1.heap.size w1 w2 := (Below.refl _ _).grown hg (Nat.le_refl _) (fun k hk => by cases hk)
  replace h := Lib.hid (h.out.bel hb2)
  replace hC1 := Lib.hid (hC1.out.trans (Ch.of hb2))
  replace ho0 := Lib.hid (ho0.out.bel hb2)
  replace hT0 := Lib.hid hT0
  clear ho hg hb2
  go_wp2_with fail
  generalize hgi : w.heap.size = gi at *
  generalize hgt : w1.heap.size = gt at *
  have hlL : Hid (L.length = n) := hP.out.length_eq.trans (lns_len f n)
  have hne : gi ≠ gt := by omega
  have hne2 : gt ≠ gi := by omega
  go_loopw [16] (fun i wr => ∃ (m : Nat) (I J : List Nat) (M : PL), m ≤ c ∧ i = .int .i64 m ∧ Hid (I.length = m) ∧ Hid (TS f n I J) ∧ Hid (M.Perm (J.map (pr f))) ∧ Hid (M.length = n - m) ∧ Hid (HP M (n - m) 0) ∧ Hid (HS wr b g cap M) ∧ Hid (OwnI wr gi (some ⟨gi, 0, none⟩) c c (ix I c)) ∧ Hid (OwnL wr gt c c (tk f I c)) ∧ Hid (Ch b g w wr)) (fun i _ => c - (intOf i).toNat)
  case atStart => exact ⟨0, [], List.range n, L, Nat.zero_le _, rfl, rfl, TS.start, hP, hlL, hH, h, ho0, hT0, hC1⟩
  case round =>
    clear hP hlL hH h ho0 hT0 hC1
    obtain ⟨m, I, J, M, hm, rfl, lI, hTS, hP, lM, hH, hS, hO, hT, hC⟩ := hrel
    by_cases hlt : m < c
    · obtain ⟨q, hq⟩ : ∃ q, n - m = q + 1 := ⟨n - m - 1, by omega⟩
      rw [hq] at lM hH
      have ta := ta_line
      go_wp2_with fail
      refine (hpop_lib hS.out lM.out (by omega) hH.out).mono ?_
      rintro e w3 ⟨x, M2, rfl, hS2, hx2, hmin, hH2, hC2⟩
      obtain ⟨i, J2, hp1, rfl, hP2, hbest⟩ := pop_pr hP.out hx2 hmin
      have lI' := lI.out
      have hTS2 := Lib.hid (hTS.out.step hp1 hbest)
      have lM2 : Hid (M2.length = n - (m + 1)) := by
        have := hx2.length_eq
        rw [lM.out] at this
        simp at this
        show M2.length = n - (m + 1)
        omega
      have hqm : q = n - (m + 1) := by omega
      rw [hqm] at hH2
      have hO2 := hC2.own hO.out (fun p e => by cases e; exact ⟨show gi ≠ b by omega, show gi ≠ g by omega⟩)
      have hT2 := hC2.ownL hT.out (show gt ≠ b by omega) (show gt ≠ g by omega)
      have c0 := hT2.c0 hlt
      have c1 := hT2.c1 hlt
      have f0 := hT2.frozen
      have d0 := own_cell hO2 (i := m) (by omega)
      have f1 := hO2.frozen
      have g1 : w3.grownBy ((w3.setCell ⟨gt, m * 2, none⟩ (.int .i64 (pr f i).1)).setCell ⟨gt, m * 2 + 1, none⟩ (.int .i64 (pr f i).2)) (some gt) := grown_set (grown_set (World.grownBy.refl _ _))
      have hT3 := hT2.set m (pr f i).1 (pr f i).2
      rw [show ((pr f i).1, (pr f i).2) = pr f i from rfl, ← lI', tk_set, lI'] at hT3
      have hO3 := World.ownsRow.kept hO2 g1 (.inr (by simpa [Value.ownBlock] using hne))
      have hS3 := hS2.stored_far g1 (show gt ≠ b by omega) (show gt ≠ g by omega)
      have g2 : ((w3.setCell ⟨gt, m * 2, none⟩ (.int .i64 (pr f i).1)).setCell ⟨gt, m * 2 + 1, none⟩ (.int .i64 (pr f i).2)).grownBy (((w3.setCell ⟨gt, m * 2, none⟩ (.int .i64 (pr f i).1)).setCell ⟨gt, m * 2 + 1, none⟩ (.int .i64 (pr f i).2)).setCell ⟨gi, m, none⟩ (.int .i64 i)) (some gi) := grown_set (World.grownBy.refl _ _)
      have hO4 := OwnI.set hO3 m (i : Int)
      rw [← lI', ix_set (by omega), lI'] at hO4
      have hT4 := hT3.kept g2 (by simpa using hne2)
      have hS4 := hS3.stored_far g2 (show gi ≠ b by omega) (show gi ≠ g by omega)
      have hC4 := ((hC.out.trans hC2).setNew (k := gt) (by omega) (m * 2) (.int .i64 (pr f i).1)).setNew (k := gt) (by omega) (m * 2 + 1) (.int .i64 (pr f i).2)
      replace hC4 := hC4.setNew (k := gi) (by omega) m (.int .i64 i)
      have lI2 : Hid ((I ++ [i]).length = m + 1) := by show (I ++ [i]).length = m + 1; simp [lI']
      obtain ⟨z, hz⟩ : ∃ z, f i = z := ⟨_, rfl⟩
      unfold pr at hT4 hS4 hC4 hO4 ta ⊢
      dsimp only at hT4 hS4 hC4 hO4 ⊢
      rw [hz] at hT4 hS4 hC4 hO4
      simp only [hz]
      generalize (pget (tk f I c) m).1 = y0 at c0
      generalize (pget (tk f I c) m).2 = y1 at c1
      generalize (ix I c).getD m 0 = y2 at d0
      replace hT4 := Lib.hid hT4
      replace hS4 := Lib.hid hS4
      replace hC4 := Lib.hid hC4
      replace hO4 := Lib.hid hO4
      replace hP2 := Lib.hid hP2
      replace hH2 := Lib.hid hH2
      clear hS2 hx2 hmin hC2 hp1 hbest lI' hqm hO2 hT2 g1 hT3 hO3 hS3 g2 hq lI hTS hP lM hH hS hO hT hC
      go_wp2_with fail
      exact ⟨⟨m + 1, I ++ [i], J2, M2, by omega, by go_num, lI2, hTS2, hP2, lM2, hH2, hS4, hO4, hT4, hC4⟩, by simp [intOf]; omega⟩
    · have hmc : c = m := by omega
      subst hmc
      have lI' := lI.out
      have hP0 : Hid (M.Perm ((I.take 0).map (fun k : Nat => ((k : Int), f k - 1)) ++ J.map (pr f))) := hP
      go_wp2_with fail
      go_loopw [37] (fun i wq => ∃ (r : Nat) (N : PL), r ≤ c ∧ i = .int .i64 r ∧ Hid (N.Perm ((I.take r).map (fun k : Nat => ((k : Int), f k - 1)) ++ J.map (pr f))) ∧ Hid (N.length = n - c + r) ∧ Hid (HP N (n - c + r) 0) ∧ Hid (HS wq b g cap N) ∧ Hid (OwnI wq gi (some ⟨gi, 0, none⟩) c c (ix I c)) ∧ Hid (OwnL wq gt c c (tk f I c)) ∧ Hid (Ch b g w wq)) (fun i _ => c - (intOf i).toNat)
      case atStart => exact ⟨0, M, Nat.zero_le _, rfl, hP0, lM, hH, hS, hO, hT, hC⟩
      case round =>
        clear hP0 hP lM hH hS hO hT hC
        obtain ⟨r, N, hr, rfl, hP, lN, hH, hS, hO, hT, hC⟩ := hrel
        by_cases hlr : r < c
        · have hTo := hT.out
          have c0 := hTo.c0 hlr
          have c1 := hTo.c1 hlr
          have hI := tk_get (f := f) (I := I) (c := c) hlr (by omega)
          rw [hI] at c0 c1
          have hmem : I.getD r 0 ∈ I := by
            rw [List.getD_eq_getElem?_getD, List.getElem?_eq_getElem (by omega)]; exact List.getElem_mem _
          have hin := hTS.out.mem.2 (.inl hmem)
          have hfi := hf.out _ hin
          have hbk := Lib.hid (fun M' => back_perm (f := f) (I := I) (J := J) (m := r) (M := N) (M' := M') (by omega) hP.out)
          unfold pr at c0 c1
          dsimp only at c0 c1
          generalize I.getD r 0 = i at *
          obtain ⟨z, hz⟩ : ∃ z, f i = z := ⟨_, rfl⟩
          rw [hz] at c1 hfi hbk
          have i3 : IntKind.i64.wrap (z - 1) = z - 1 := IntWalk.i64_in _ ⟨by omega, by omega⟩
          clear hTo hI hmem hz
          go_wp2_with fail
          refine (hpush_lib (x := (i : Int)) (y := z - 1) (N := n - c + r) (hS.out.bel (by first | exact (Below.refl _ _).alloc (Nat.le_refl _) _ | exact ((Below.refl _ _).alloc (Nat.le_refl _) _).setCell (by simp) _)) lN.out (by omega) (by omega) hH.out).mono ?_
          rintro e w5 ⟨rfl, N2, hS2, hP2, hH2, hC2⟩
          have hC3 := (Ch.of (b := b) (g := g) (show Below wr.heap.size wr _ from by first | exact (Below.refl _ _).alloc (Nat.le_refl _) _ | exact ((Below.refl _ _).alloc (Nat.le_refl _) _).setCell (by simp) _)).trans hC2
          have hO2 := Lib.hid (hC3.own hO.out (fun p e => by cases e; exact ⟨show gi ≠ b by omega, show gi ≠ g by omega⟩))
          have hT2 := Lib.hid (hC3.ownL hT.out (show gt ≠ b by omega) (show gt ≠ g by omega))
          have hC4 := Lib.hid (hC.out.trans hC3)
          have lN2 : Hid (N2.length = n - c + (r + 1)) := by
            have := hP2.length_eq
            rw [List.length_cons, lN.out] at this
            exact this
          have hP3 := Lib.hid (hbk.out N2 hP2)
          have hH3 : Hid (HP N2 (n - c + (r + 1)) 0) := hH2
          replace hS2 := Lib.hid hS2
          clear hC3 hC2 hP2 hH2 hP lN hH hS hO hT hC hbk c0 c1
          go_wp2_with fail
          exact ⟨⟨r + 1, N2, by omega, by go_num, hP3, lN2, hH3, hS2, hO2, hT2, hC4⟩, by simp [intOf]; omega⟩
        · have hrc : c = r := by omega
          subst hrc
          have hP' := hP.out
          rw [List.take_of_length_le (by omega)] at hP'
          have hdone := hTS.out.done hP'
          rw [lI'] at hdone
          have hch : Hid (∀ k, k < n → (k ∈ I ↔ chB f n c k = true)) := fun k hk => by
            have := hTS.out.ch hk
            rwa [lI'] at this
          have hmm : Hid (∀ k ∈ I, k < n) := fun k hk => hTS.out.mem.2 (.inl hk)
          have hHd : Hid (HP N n 0) := by
            have := hH.out
            rwa [show n - c + c = n by omega] at this
          replace hdone := Lib.hid hdone
          replace lI' := Lib.hid lI'
          clear hP' hH hP lN hT hTS
          go_wp2_with fail
          go_ret
          exact ⟨gi, I, N, rfl, by rw [hgi]; exact hO.out, lI'.out, hmm.out, hch.out, hS.out, hdone.out, hHd.out, hC.out⟩
end Go.Proofs.YtnfkafaolelkbaaGreatDoor

namespace Go.Proofs.YtnfkafaolelkbaaGreatDoor
set_option maxRecDepth 100000
open Go.RowKit

theorem sm_cols (s : Option Addr) (n cap : Nat) (w : World) : (Go.method 297 47 (.slice s n cap) "loop.example/discretetomography/impl.set").run Tryz.prog w = .ok (126, .slice s n cap) w := by kernel_rfl
theorem sn_cols (s : Option Addr) (n cap : Nat) (w : World) : (nilAhead 297 47 (.slice s n cap) "loop.example/discretetomography/impl.set").run Tryz.prog w = .ok (some false) w := by kernel_rfl
set_option maxHeartbeats 1600000 in
theorem set_cols (B k n cap : Nat) (xs : List Int) (i j : Nat) (w : World) (h : OwnI w B (some ⟨k, 0, none⟩) n cap xs) (hi : i < n) (hj : j < 6) (h0 : 0 ≤ xs.getD i 0) (h1 : xs.getD i 0 ≤ 63) :
    Calls Tryz.prog 126 #[.slice (some ⟨k, 0, none⟩) n cap, .int .i64 j, .int .i64 i] w fun e w' => e = .returned (.tuple #[]) ∧ w.grownBy w' (some k) ∧ OwnI w' B (some ⟨k, 0, none⟩) n cap (putL xs i j true) := by
  have hc := own_cell h hi
  have hf := h.frozen
  have hp := (orput hj h0 h1).1
  have ew := (wrap_pow j hj).1
  have ev := (wrap_pow j hj).2
  have hO := Lib.hid ((h.bel ((Below.refl _ _).drew)).set i (putI (xs.getD i 0) j true))
  have hg := Lib.hid (grown_set (w := w) (j := i) (v := .int .i64 (putI (xs.getD i 0) j true)) (grown_drewN (World.grownBy.refl w (some k)) 1))
  have hj0 : (0 : Int) ≤ (j : Int) := Int.natCast_nonneg _
  have hj7 : (j : Int) < 64 := by omega
  unfold putL
  generalize xs.getD i 0 = x at *
  clear h
  go_enter Tryz.func126, Tryz.ntmps126
  go_wp2_with fail
  go_region
  all_goals
    go_wp2_with fail
    go_end0
    exact ⟨rfl, hg.out, hO.out⟩
/-- A canvas: its type, its method, the rows that its cells make. -/
structure Cnv (T : TypeId) (F : FuncId) (X : (Nat → Nat → Bool) → List Int) (len nl nk : Nat) : Prop where
  me : ∀ (s : Option Addr) (n cap : Nat) (w : World), (Go.method 297 T (.slice s n cap) "loop.example/discretetomography/impl.set").run Tryz.prog w = .ok (F, .slice s n cap) w
  na : ∀ (s : Option Addr) (n cap : Nat) (w : World), (nilAhead 297 T (.slice s n cap) "loop.example/discretetomography/impl.set").run Tryz.prog w = .ok (some false) w
  set : ∀ (B k cap : Nat) (c : Nat → Nat → Bool) (l a : Nat) (w : World), l < nl → a < nk → OwnI w B (some ⟨k, 0, none⟩) len cap (X c) →
    Calls Tryz.prog F #[.slice (some ⟨k, 0, none⟩) len cap, .int .i64 l, .int .i64 a] w fun e w' => e = .returned (.tuple #[]) ∧ w.grownBy w' (some k) ∧ OwnI w' B (some ⟨k, 0, none⟩) len cap (X fun p q => c p q || (decide (p = l) && decide (q = a)))
  ext : ∀ c d : Nat → Nat → Bool, (∀ p q, p < nl → q < nk → c p q = d p q) → X c = X d
theorem grown_ch {b g : Nat} {w wr w' : World} {row : Option Nat} (h : w.grownBy wr row) (hc : Ch b g wr w') (hb : w.heap.size ≤ b) (hg : w.heap.size ≤ g) : w.grownBy w' row :=
  ⟨hc.os.trans h.os, hc.tape.trans h.tape, hc.output.trans h.output, Nat.le_trans h.size hc.size, fun k hk hn => (hc.block k (Nat.lt_of_lt_of_le hk h.size) (by omega) (by omega)).trans (h.block k hk hn)⟩
theorem grown_bel {w wr w' : World} {row : Option Nat} (h : w.grownBy wr row) (hb : Below wr.heap.size wr w') : w.grownBy w' row := grown_trans h (below_grown hb _)
theorem lns_congr {f g : Nat → Int} {n : Nat} (h : ∀ i, i < n → f i = g i) : lns f n = lns g n := List.map_congr_left fun i hi => by
  rw [List.mem_range] at hi; unfold pr; rw [h i hi]
theorem left_bd {f : Nat → Int} {n j : Nat} {ys : List Int} (i : Nat) : f i - j ≤ leftI f n ys j i ∧ leftI f n ys j i ≤ f i := by
  rw [left_sum]
  have := sum_bd (f := fun k => if bcB f n ys i k = true then (1 : Int) else 0) (fun k => by (try dsimp only); split <;> omega) j
  omega
/-- The cells of the first lines. -/
def upto (f : Nat → Int) (n : Nat) (ys : List Int) (j : Nat) (p q : Nat) : Bool := decide (p < j) && bcB f n ys q p
/-- .. and of the line j those across that are told. -/
def upto2 (f : Nat → Int) (n : Nat) (ys : List Int) (j : Nat) (I : List Nat) (p q : Nat) : Bool := upto f n ys j p q || (decide (p = j) && decide (q ∈ I))
theorem upto2_nil {f : Nat → Int} {n : Nat} {ys : List Int} {j : Nat} : upto2 f n ys j [] = upto f n ys j := by
  funext p q; unfold upto2; simp
theorem upto2_next {f : Nat → Int} {n : Nat} {ys : List Int} {j r : Nat} {I : List Nat} (hr : r < I.length) : (fun p q => upto2 f n ys j (I.take r) p q || (decide (p = j) && decide (q = I.getD r 0))) = upto2 f n ys j (I.take (r + 1)) := by
  funext p q
  have e : I.getD r 0 = I[r] := by simp [hr]
  unfold upto2
  rw [e, List.take_succ_eq_append_getElem hr]
  rw [Bool.eq_iff_iff]
  simp only [Bool.or_eq_true, Bool.and_eq_true, decide_eq_true_eq, List.mem_append, List.mem_singleton]
  constructor
  · rintro ((h | h) | h)
    · exact .inl h
    · exact .inr ⟨h.1, .inl h.2⟩
    · exact .inr ⟨h.1, .inr h.2⟩
  · rintro (h | ⟨h1, h2 | h2⟩)
    · exact .inl (.inl h)
    · exact .inl (.inr ⟨h1, h2⟩)
    · exact .inr ⟨h1, h2⟩
theorem upto2_full {f : Nat → Int} {n : Nat} {ys : List Int} {j : Nat} {I : List Nat} (h : ∀ k, k < n → (k ∈ I ↔ chB (leftI f n ys j) n (ys.getD j 0) k = true)) {p q : Nat} (hq : q < n) : upto2 f n ys j I p q = upto f n ys (j + 1) p q := by
  unfold upto2 upto
  rw [Bool.eq_iff_iff]
  simp only [Bool.or_eq_true, Bool.and_eq_true, decide_eq_true_eq]
  constructor
  · rintro (hh | hh)
    · exact ⟨by omega, hh.2⟩
    · obtain ⟨rfl, h2⟩ := hh; exact ⟨by omega, (h q hq).1 h2⟩
  · rintro ⟨h1, h2⟩
    by_cases e : p < j
    · exact .inl ⟨e, h2⟩
    · have : p = j := by omega
      subst this; exact .inr ⟨rfl, (h q hq).2 h2⟩

set_option maxHeartbeats 4000000 in
theorem build_byColumns {X : (Nat → Nat → Bool) → List Int} {len nl nk : Nat} (C : Cnv 47 126 X len nl nk) (a a' : Option Addr) (c1 c2 : Nat) (ss zs : List Int) (B k0 cap : Nat) (w : World) (h : Row w a nl ss) (h' : Row w a' nk zs)
    (ho : OwnI w B (some ⟨k0, 0, none⟩) len cap (X fun _ _ => false)) (hfar : ∀ q off, a = some ⟨q, off, none⟩ → 0 < nl → q ≠ k0) (hk : nk ≤ 6) (hl : nl ≤ 6) (hs : ∀ j, j < nl → 0 ≤ ss.getD j 0 ∧ ss.getD j 0 ≤ nk) (hb : ∀ i, i < nk → 0 ≤ zs.getD i 0 ∧ zs.getD i 0 ≤ 6) :
    Calls Tryz.prog 26 #[.slice a nl c1, .slice a' nk c2, .iface 47 (.slice (some ⟨k0, 0, none⟩) len cap)] w fun e w' => e = .returned (.tuple #[]) ∧ w.grownBy w' (some k0) ∧ OwnI w' B (some ⟨k0, 0, none⟩) len cap (X fun p q => bcB (fun i => zs.getD i 0) nk ss q p) := by
  have hk0 := own_lt ho
  have cL := Lib.hid (lines_of a' nk c2 zs w h' (by omega))
  obtain ⟨f, hf⟩ : ∃ f : Nat → Int, (fun i => zs.getD i 0) = f := ⟨_, rfl⟩
  have hfb : Hid (∀ i, i < nk → 0 ≤ f i ∧ f i ≤ 6) := fun i hi => by rw [← hf]; exact hb i hi
  rw [hf] at cL ⊢
  have ho := Lib.hid ho
  have h := Lib.hid h
  have hfar := Lib.hid hfar
  have hs := Lib.hid hs
  have C := Lib.hid C
  clear hb hf h'
  go_enter Tryz.func26, Tryz.ntmps26
  go_wp2_with fail
  refine cL.out.mono ?_
  rintro e w1 ⟨b, g, L, rfl, hb1, hb2, hg1, hg2, hS, hP, hH, hB⟩
  have ho1 := Lib.hid (ho.out.bel hB)
  have hG1 := Lib.hid (below_grown hB (some k0))
  have hkb : k0 ≠ b := by omega
  have hkg : k0 ≠ g := by omega
  have hX0 : X (fun _ _ => false) = X (upto f nk ss 0) := C.out.ext _ _ fun p q _ _ => by unfold upto; simp
  rw [hX0] at ho1
  replace hS := Lib.hid hS
  replace hP := Lib.hid hP
  replace hH := Lib.hid hH
  clear ho hB cL hb2 hg2 hX0
  go_wp2_with fail
  go_loopw [15] (fun i wr => ∃ (j : Nat) (L : PL), j ≤ nl ∧ i = .int .i64 j ∧ Hid (HS wr b g nk L) ∧ Hid (L.Perm (lns (leftI f nk ss j) nk)) ∧ Hid (HP L nk 0) ∧ Hid (OwnI wr B (some ⟨k0, 0, none⟩) len cap (X (upto f nk ss j))) ∧ Hid (w.grownBy wr (some k0))) (fun i _ => nl - (intOf i).toNat)
  case atStart => exact ⟨0, L, Nat.zero_le _, rfl, hS, hP, hH, ho1, hG1⟩
  case round =>
    clear hS hP hH ho1 hG1
    obtain ⟨j, L, hj, rfl, hS, hP, hH, hO, hG⟩ := hrel
    by_cases hlt : j < nl
    · have hR := h.out.apart hG.out (fun q off e hn => by have := hfar.out q off e hn; simpa using this)
      obtain ⟨qb, qo, rfl, hc⟩ := row_at hR hlt
      have hsj := hs.out j hlt
      obtain ⟨c, hcc⟩ := Int.eq_ofNat_of_zero_le hsj.1
      rw [hcc] at hc hsj
      have cT := Lib.hid (take_lib (c := c) hS.out hP.out hH.out (by omega) hk (Nat.le_refl _) (fun i hi => by have := hfb.out i hi; have := left_bd (f := f) (n := nk) (j := j) (ys := ss) i; omega))
      replace hcc := Lib.hid hcc
      clear hS hP hH hR
      go_wp2_with fail
      refine cT.out.mono ?_
      rintro e w2 ⟨q, I, L2, rfl, hI, lI, hIn, hIch, hS2, hP2, hH2, hC2⟩
      have hwz := hG.out.size
      have hqw : wr.heap.size ≤ q ∧ q < w2.heap.size := World.ownsRow.lt hI q rfl
      have hO2 := Lib.hid (hC2.own hO.out (fun p e => by cases e; exact ⟨hkb, hkg⟩))
      have hG2 := Lib.hid (grown_ch hG.out hC2 (by omega) (by omega))
      have hqk : q ≠ k0 := by have := hqw.1; omega
      rw [← hcc.out] at hIch
      have hIch' : Hid (∀ k, k < nk → (k ∈ I ↔ chB (leftI f nk ss j) nk (ss.getD j 0) k = true)) := hIch
      rw [← hcc.out] at hP2
      have hP3 : Hid (L2.Perm (lns (leftI f nk ss (j + 1)) nk)) := hP2
      have hO3 : Hid (OwnI w2 B (some ⟨k0, 0, none⟩) len cap (X (upto2 f nk ss j (I.take 0)))) := by
        show OwnI w2 B (some ⟨k0, 0, none⟩) len cap (X (upto2 f nk ss j []))
        rw [upto2_nil]; exact hO2.out
      replace hI := Lib.hid hI
      replace lI := Lib.hid lI
      replace hIn := Lib.hid hIn
      replace hS2 := Lib.hid hS2
      replace hH2 := Lib.hid hH2
      obtain ⟨BI, hBI⟩ : ∃ BI, wr.heap.size = BI := ⟨_, rfl⟩
      rw [hBI] at hI
      clear cT hC2 hO hG hc hqw hO2 hIch hP2 hwz hBI
      go_wp2_with fail
      go_loopw [24] (fun i wq => ∃ r : Nat, r ≤ c ∧ i = .int .i64 r ∧ Hid (HS wq b g nk L2) ∧ Hid (OwnI wq BI (some ⟨q, 0, none⟩) c c (ix I c)) ∧ Hid (OwnI wq B (some ⟨k0, 0, none⟩) len cap (X (upto2 f nk ss j (I.take r)))) ∧ Hid (w.grownBy wq (some k0))) (fun i _ => c - (intOf i).toNat)
      case atStart => exact ⟨0, Nat.zero_le _, rfl, hS2, hI, hO3, hG2⟩
      case round =>
        clear hS2 hI hO3 hG2
        obtain ⟨r, hr, rfl, hS, hI, hO, hG⟩ := hrel
        by_cases hlr : r < c
        · have d0 := own_cell hI.out (i := r) (by omega)
          rw [ix_get hlr] at d0
          have lI' := lI.out
          have hmem : I.getD r 0 ∈ I := by
            rw [List.getD_eq_getElem?_getD, List.getElem?_eq_getElem (by omega)]; exact List.getElem_mem _
          have hin := hIn.out _ hmem
          have hnx := upto2_next (f := f) (n := nk) (ys := ss) (j := j) (r := r) (I := I) (by omega)
          have cS := C.out.set B k0 cap (upto2 f nk ss j (I.take r)) j (I.getD r 0) wr hlt hin hO.out
          rw [hnx] at cS
          replace cS := Lib.hid cS
          have sm := C.out.me (some ⟨k0, 0, none⟩) len cap
          have sn := C.out.na (some ⟨k0, 0, none⟩) len cap
          generalize I.getD r 0 = i at *
          clear lI' hmem hnx
          go_wp2_with fail
          refine cS.out.mono ?_
          rintro e w5 ⟨rfl, hg5, hO5⟩
          have hS5 := Lib.hid (hS.out.stored_far hg5 hkb hkg)
          have hI5 : Hid (OwnI w5 BI (some ⟨q, 0, none⟩) c c (ix I c)) := World.ownsRow.kept hI.out hg5 (.inr (by simpa [Value.ownBlock] using hqk))
          have hG5 := Lib.hid (grown_trans hG.out hg5)
          replace hO5 := Lib.hid hO5
          clear cS hg5 hS hI hO hG d0 sm sn
          go_wp2_with fail
          exact ⟨⟨r + 1, by omega, by go_num, hS5, hI5, hO5, hG5⟩, by simp [intOf]; omega⟩
        · have hrc : r = c := by omega
          have hX2 : X (upto2 f nk ss j (I.take r)) = X (upto f nk ss (j + 1)) := C.out.ext _ _ fun p q' hp hq => by
            rw [List.take_of_length_le (by have := lI.out; omega)]; exact upto2_full hIch'.out hq
          rw [hX2] at hO
          clear hX2 hI
          go_wp2_with fail
          exact ⟨⟨j + 1, L2, by omega, by go_num, hS, hP3, hH2, hO, hG⟩, by simp [intOf]; omega⟩
    · have hjl : j = nl := by omega
      have hX2 : X (upto f nk ss j) = X (fun p q => bcB f nk ss q p) := C.out.ext _ _ fun p q hp hq => by
        unfold upto; rw [decide_eq_true (by omega), Bool.true_and]
      rw [hX2] at hO
      clear hX2 hS hP hH
      go_wp2_with fail
      go_end0
      exact ⟨rfl, hG.out, hO.out⟩
end Go.Proofs.YtnfkafaolelkbaaGreatDoor
