/-
  The heap's own methods (Len, Less, Swap, Pop, Push): how they are found, their contracts.
-/
import Derived.Test.YtocbnpkdncnbgaaDoorDd
import Derived.RegionTactic
import Derived.Deep.RegionLaw
namespace Go.Proofs.YtocbnpkdncnbgaaDoor
set_option maxRecDepth 100000
open Go.RowKit

/-- The heap as a value of an interface. -/
abbrev hpV (b : Nat) : Value := .iface 79 (.pointer (some ⟨b, 0, none⟩))
/-- A line as a value of an interface. -/
abbrev lnV (x y : Int) : Value := .iface 104 (.agg #[.int .i64 x, .int .i64 y])
theorem na_Len (b : Addr) (w : World) : (nilAhead 275 79 (.pointer (some b)) "Len").run Tryd.prog w = .ok (some false) w := by kernel_rfl
theorem na_Less (b : Addr) (w : World) : (nilAhead 275 79 (.pointer (some b)) "Less").run Tryd.prog w = .ok (some false) w := by kernel_rfl
theorem na_Swap (b : Addr) (w : World) : (nilAhead 275 79 (.pointer (some b)) "Swap").run Tryd.prog w = .ok (some false) w := by kernel_rfl
theorem na_Pop (b : Addr) (w : World) : (nilAhead 275 79 (.pointer (some b)) "Pop").run Tryd.prog w = .ok (some false) w := by kernel_rfl
theorem na_Push (b : Addr) (w : World) : (nilAhead 275 79 (.pointer (some b)) "Push").run Tryd.prog w = .ok (some false) w := by kernel_rfl
theorem me_Pop (b : Addr) (w : World) : (Go.method 275 79 (.pointer (some b)) "Pop").run Tryd.prog w = .ok (124, .pointer (some b)) w := by kernel_rfl
theorem me_Push (b : Addr) (w : World) : (Go.method 275 79 (.pointer (some b)) "Push").run Tryd.prog w = .ok (125, .pointer (some b)) w := by kernel_rfl
theorem mk_Len (b : Addr) (w : World) : (Go.method 275 79 (.pointer (some b)) "Len").run Tryd.prog w = (do let v ← loadVar 102 b; pure (122, v)).run Tryd.prog w := by kernel_rfl
theorem mk_Less (b : Addr) (w : World) : (Go.method 275 79 (.pointer (some b)) "Less").run Tryd.prog w = (do let v ← loadVar 102 b; pure (123, v)).run Tryd.prog w := by kernel_rfl
theorem mk_Swap (b : Addr) (w : World) : (Go.method 275 79 (.pointer (some b)) "Swap").run Tryd.prog w = (do let v ← loadVar 102 b; pure (126, v)).run Tryd.prog w := by kernel_rfl
theorem me_Len {b : Addr} {s : Option Addr} {n cap : Nat} {w : World} (h : w.cell? b = some (.slice s n cap)) : (Go.method 275 79 (.pointer (some b)) "Len").run Tryd.prog w = .ok (122, .slice s n cap) w := by
  rw [mk_Len]; simp [h, go_sem, loadVar]
theorem me_Less {b : Addr} {s : Option Addr} {n cap : Nat} {w : World} (h : w.cell? b = some (.slice s n cap)) : (Go.method 275 79 (.pointer (some b)) "Less").run Tryd.prog w = .ok (123, .slice s n cap) w := by
  rw [mk_Less]; simp [h, go_sem, loadVar]
theorem me_Swap {b : Addr} {s : Option Addr} {n cap : Nat} {w : World} (h : w.cell? b = some (.slice s n cap)) : (Go.method 275 79 (.pointer (some b)) "Swap").run Tryd.prog w = .ok (126, .slice s n cap) w := by
  rw [mk_Swap]; simp [h, go_sem, loadVar]

theorem len_line (s : Option Addr) (n cap : Nat) (w : World) :
    Calls Tryd.prog 122 #[.slice s n cap] w fun e w' => e = .returned (.int .i64 n) ∧ w = w' := by
  go_enter Tryd.func122, Tryd.ntmps122
  go_wp2
  go_ret
  exact ⟨rfl, rfl⟩
set_option maxHeartbeats 800000 in
theorem less_cells (g n cap p q : Nat) (i x k y : Int) (w : World) (c0 : w.cell? ⟨g, p * 2, none⟩ = some (.int .i64 i)) (c1 : w.cell? ⟨g, p * 2 + 1, none⟩ = some (.int .i64 x))
    (d0 : w.cell? ⟨g, q * 2, none⟩ = some (.int .i64 k)) (d1 : w.cell? ⟨g, q * 2 + 1, none⟩ = some (.int .i64 y)) (hp : p < n) (hq : q < n) :
    Calls Tryd.prog 123 #[.slice (some ⟨g, 0, none⟩) n cap, .int .i64 p, .int .i64 q] w fun e w' => e = .returned (.bool (if x = y then decide (i < k) else decide (y < x))) ∧ Below w.heap.size w w' := by
  by_cases e : x = y
  · subst e
    rw [if_pos rfl]
    have t1 : (x != x) = false := by simp
    go_enter Tryd.func123, Tryd.ntmps123
    go_wp2_with fail
    go_quiet (fail)
    go_wp2_with fail
    go_quiet (fail)
    go_wp2_with fail
    go_ret
    exact ⟨rfl, below_drewN (below_drewN (Below.refl _ _) _) _⟩
  · rw [if_neg e]
    have t1 : (x != y) = true := by simpa using e
    clear e
    go_enter Tryd.func123, Tryd.ntmps123
    go_wp2_with fail
    go_quiet (fail)
    go_wp2_with fail
    go_quiet (fail)
    go_wp2_with fail
    go_ret
    exact ⟨rfl, below_drewN (below_drewN (Below.refl _ _) _) _⟩
theorem less_line {g n cap p q : Nat} {L : PL} {w : World} (h : OwnL w g n cap L) (hp : p < n) (hq : q < n) :
    Calls Tryd.prog 123 #[.slice (some ⟨g, 0, none⟩) n cap, .int .i64 p, .int .i64 q] w fun e w' => e = .returned (.bool (decide (les (pget L p) (pget L q)))) ∧ Below w.heap.size w w' :=
  (less_cells g n cap p q _ _ _ _ w (h.c0 hp) (h.c1 hp) (h.c0 hq) (h.c1 hq) hp hq).mono fun e w' hh => ⟨by
    rw [hh.1]
    have : (if (pget L p).2 = (pget L q).2 then decide ((pget L p).1 < (pget L q).1) else decide ((pget L q).2 < (pget L p).2)) = decide (les (pget L p) (pget L q)) := by
      by_cases e : (pget L p).2 = (pget L q).2
      · rw [if_pos e]; exact decide_eq_decide.2 ⟨fun h1 => .inr ⟨e, h1⟩, fun h1 => h1.elim (fun h2 => by omega) fun h2 => h2.2⟩
      · rw [if_neg e]; exact decide_eq_decide.2 ⟨fun h1 => .inl h1, fun h1 => h1.elim id fun h2 => absurd h2.1 e⟩
    rw [this], hh.2⟩
set_option maxHeartbeats 1600000 in
theorem swap_cells (g n cap p q : Nat) (i x k y : Int) (w : World) (c0 : w.cell? ⟨g, p * 2, none⟩ = some (.int .i64 i)) (c1 : w.cell? ⟨g, p * 2 + 1, none⟩ = some (.int .i64 x))
    (d0 : w.cell? ⟨g, q * 2, none⟩ = some (.int .i64 k)) (d1 : w.cell? ⟨g, q * 2 + 1, none⟩ = some (.int .i64 y)) (f : ∀ j, w.frozen? ⟨g, j, none⟩ = false) (hp : p < n) (hq : q < n) :
    Calls Tryd.prog 126 #[.slice (some ⟨g, 0, none⟩) n cap, .int .i64 p, .int .i64 q] w fun e w' => e = .returned (.tuple #[]) ∧ w' = set4 w.drew g p q (i, x) (k, y) := by
  by_cases e : p = q
  · subst e
    obtain rfl : i = k := by rw [c0] at d0; simpa using d0
    obtain rfl : x = y := by rw [c1] at d1; simpa using d1
    clear d0 d1
    go_enter Tryd.func126, Tryd.ntmps126
    go_wp2_with fail
    go_region
    all_goals
      go_wp2_with fail
      go_end0
      exact ⟨rfl, rfl⟩
  · have e0 : (w.setCell ⟨g, p * 2, none⟩ (.int .i64 k)).cell? ⟨g, q * 2, none⟩ = some (.int .i64 k) := by
      rw [World.cell?_setCell_other _ _ _ _ (by simp; try omega)]; exact d0
    have e1 : ((w.setCell ⟨g, p * 2, none⟩ (.int .i64 k)).setCell ⟨g, p * 2 + 1, none⟩ (.int .i64 y)).cell? ⟨g, q * 2 + 1, none⟩ = some (.int .i64 y) := by
      rw [World.cell?_setCell_other _ _ _ _ (by simp; try omega), World.cell?_setCell_other _ _ _ _ (by simp; try omega)]; exact d1
    clear e
    go_enter Tryd.func126, Tryd.ntmps126
    go_wp2_with fail
    go_region
    all_goals
      go_wp2_with fail
      go_end0
      exact ⟨rfl, rfl⟩
theorem swap_line {b g cap p q : Nat} {L : PL} {w : World} (h : HS w b g cap L) (hp : p < L.length) (hq : q < L.length) :
    Calls Tryd.prog 126 #[.slice (some ⟨g, 0, none⟩) L.length cap, .int .i64 p, .int .i64 q] w fun e w' => e = .returned (.tuple #[]) ∧ HS w' b g cap (pswap L p q) ∧ Ch b g w w' :=
  (swap_cells g _ cap p q _ _ _ _ w (h.own.c0 hp) (h.own.c1 hp) (h.own.c0 hq) (h.own.c1 hq) h.own.frozen hp hq).mono fun e w' hh => ⟨hh.1, by
    rw [hh.2]; exact (h.bel ((Below.refl _ _).drew)).swap p q, by
    rw [hh.2]; exact (Ch.refl b g w).drew.trans (Ch.grown (set4_grown _ _ _ _ _ _) (.inr (.inr rfl)))⟩

set_option maxHeartbeats 800000 in
theorem pop_line {b g cap n : Nat} {L : PL} {w : World} (h : HS w b g cap L) (hn : L.length = n + 1) (hm : n < 1048576) :
    Calls Tryd.prog 124 #[.pointer (some ⟨b, 0, none⟩)] w fun e w' => e = .returned (lnV (pget L n).1 (pget L n).2) ∧ HS w' b g cap (L.take n) ∧ Ch b g w w' := by
  have x := h.box
  have f := h.fz
  have c0 := h.own.c0 (i := n) (by omega)
  have c1 := h.own.c1 (i := n) (by omega)
  have hc := h.own.room
  rw [hn] at x hc
  have hp : Hid (HS ((w.setCell ⟨b, 0, none⟩ (.slice (some ⟨g, 0, none⟩) n cap)).alloc (.cells #[.int .i64 (pget L n).1, .int .i64 (pget L n).2] 104)) b g cap (L.take n)) := (h.pop hn).bel ((Below.refl _ _).alloc (Nat.le_refl _) _)
  have hch : Hid (Ch b g w ((w.setCell ⟨b, 0, none⟩ (.slice (some ⟨g, 0, none⟩) n cap)).alloc (.cells #[.int .i64 (pget L n).1, .int .i64 (pget L n).2] 104))) := ((Ch.refl b g w).setB 0 _).alloc _
  have hb := block_lt x
  have hg := h.own.lt
  generalize (pget L n).1 = i at *
  generalize (pget L n).2 = y at *
  clear h
  go_enter Tryd.func124, Tryd.ntmps124
  go_wp2_with fail
  go_ret
  exact ⟨rfl, hp.out, hch.out⟩
theorem infoLine : (Tryd.prog.info? 104).map (fun i => (i.zero, i.size, i.bytes)) = some (some (.agg #[.int .i64 0, .int .i64 0]), 2, 16) := by kernel_rfl
/-- A step of a region that draws its order: append within the capacity. -/
theorem step_append_fits {P : Program} {w : World} {ops : Array Oper} {o : Oper} {a : Act} {K : Act → World → Prop} {Q : Exit → Act → World → Prop} {E : Prop} (hgd : o.guard = none) (s x : Operand) (t : TypeId)
    (ho : o.op = .call { callee := .builtin .append, args := #[s, x], argTypes := #[t, t] })
    (base : Nat) (e : TypeId) (i : TypeInfo) (size : Nat) (ht : P.underlying t = some (.slice e)) (hi : P.info? e = some i) (hsize : i.size = size)
    (g k cap : Nat) (xs : List Value) (hs : a.eval s = .slice (some ⟨g, 0, none⟩) k cap) (hown : w.ownsRow base e size (.slice (some ⟨g, 0, none⟩) k cap) k xs)
    (ad : Addr) (m c : Nat) (news : List Value) (hx : a.eval x = .slice (some ad) m c) (hl : news.length = m * size) (hnews : ∀ j u, news[j]? = some u → w.cell? (ad.add j) = some u) (h1 : ∀ u ∈ news, u.oneCell' = true)
    (b1 : k + m ≤ cap)
    (h : ∀ w', w'.ownsRow base e size (.slice (some ⟨g, 0, none⟩) (k + m) cap) (k + m) (xs ++ news) → w.grownBy w' (some g) → K (a.put o.dst (.slice (some ⟨g, 0, none⟩) (k + m) cap)) w') :
    if Region.wanted o (yielded ops a.tmps) = true then Oper.wp P o a w K Q else E := by
  have hw : Region.wanted o (yielded ops a.tmps) = true := by simp [Region.wanted, hgd]
  rw [if_pos hw]
  obtain ⟨w', hr, h2, h3⟩ := run_append_fits (P := P) w base t o.type e i size ht hi hsize g k cap xs hown ad m c news hl hnews h1 b1
  unfold Oper.wp execOp
  simp only [ho, resolve, invoke, builtin, Sem.run_bind, Sem.run_pure, Result.andThen_ok, List.map_toArray, List.map_cons, List.map_nil, hs, hx, hr]
  exact h w' h2 h3
theorem HS.pushed {w w1 w3 : World} {b g cap : Nat} {L : PL} {x y : Int} (h : HS w b g cap L) (hb : Below w.heap.size w w1)
    (ho : w3.ownsRow 0 104 2 (.slice (some ⟨g, 0, none⟩) (L.length + 1) cap) (L.length + 1) (flat L ++ [.int .i64 x, .int .i64 y])) (hg : w1.grownBy w3 (some g)) :
    Hid (HS (w3.setCell ⟨b, 0, none⟩ (.slice (some ⟨g, 0, none⟩) (L.length + 1) cap)) b g cap (L ++ [(x, y)])) ∧ Hid (Ch b g w (w3.setCell ⟨b, 0, none⟩ (.slice (some ⟨g, 0, none⟩) (L.length + 1) cap))) := by
  have h1 := h.bel hb
  have hl : (L ++ [(x, y)]).length = L.length + 1 := by simp
  have hs : w3.grownBy (w3.setCell ⟨b, 0, none⟩ (.slice (some ⟨g, 0, none⟩) (L.length + 1) cap)) (some b) := grown_set (World.grownBy.refl _ _)
  refine ⟨⟨?_, ?_, ?_, h.ne⟩, ((Ch.of hb).trans (Ch.grown hg (.inr (.inr rfl)))).setB 0 _⟩
  · rw [hl]; exact World.cell?_setCell_same _ _ _ (hg.cell h1.box (by simpa using h.ne))
  · rw [hl]
    have ho2 : OwnL w3 g (L.length + 1) cap (L ++ [(x, y)]) := by unfold OwnL; rw [fl_app]; exact ho
    exact ho2.kept hs (by simpa using Ne.symm h.ne)
  · rw [World.frozen?_setCell, World.frozen?_of_block (hg.block b (block_lt h1.box) (by simpa using h.ne))]; exact h1.fz
theorem pair_news {w2 : World} {k : Nat} {x y : Int} (h0 : w2.cell? ⟨k, 0, none⟩ = some (.int .i64 x)) (h1 : w2.cell? ⟨k, 1, none⟩ = some (.int .i64 y)) :
    ∀ j u, [Value.int .i64 x, .int .i64 y][j]? = some u → w2.cell? ((⟨k, 0, none⟩ : Addr).add j) = some u := by
  intro j u hj
  match j, hj with
  | 0, hj => cases hj; simpa [Addr.add] using h0
  | 1, hj => cases hj; simpa [Addr.add] using h1
  | j + 2, hj => simp at hj
theorem pair_one {x y : Int} : ∀ u ∈ [Value.int .i64 x, .int .i64 y], u.oneCell' = true := by
  intro u hu
  rcases List.mem_cons.1 hu with rfl | hu
  · rfl
  · rcases List.mem_cons.1 hu with rfl | hu
    · rfl
    · cases hu
theorem ta_line (x y : Int) (w : World) : (Instr.typeAssert (lnV x y) 20 104 false).run Tryd.prog w = .ok (.agg #[.int .i64 x, .int .i64 y]) w := by kernel_rfl
set_option maxHeartbeats 1600000 in
theorem push_line {b g cap : Nat} {L : PL} {x y : Int} {w : World} (h : HS w b g cap L) (hc : L.length + 1 ≤ cap) :
    Calls Tryd.prog 125 #[.pointer (some ⟨b, 0, none⟩), lnV x y] w fun e w' => e = .returned (.tuple #[]) ∧ HS w' b g cap (L ++ [(x, y)]) ∧ Ch b g w w' := by
  obtain ⟨i0, hi, hz0, hz1, hz2⟩ := info_parts infoLine
  have xb := h.box
  have f := h.fz
  have hb := block_lt xb
  have hg := h.own.lt
  have hne := h.ne
  have hO : Hid (∀ w2 : World, Below w.heap.size w w2 → OwnL w2 g L.length cap L) := fun w2 hb => (h.bel hb).own
  replace h := Lib.hid h
  generalize hk : L.length = n at *
  have ta := ta_line x y
  have hB1 : Hid (Below w.heap.size w (w.alloc (.cells #[.int .i64 x, .int .i64 y] 104)).drew) := ((Below.refl _ _).alloc (Nat.le_refl _) _).drew
  go_enter Tryd.func125, Tryd.ntmps125
  go_wp2_with fail
  go_region_law (first | ((refine step_append_fits rfl (.tmp 7) (.tmp 10) 102 rfl 0 104 i0 2 Tryd.underlying102 hi hz1 g n cap (flat L) rfl (hO.out _ hB1.out) ⟨w.heap.size, 0, none⟩ 1 1 [.int .i64 x, .int .i64 y] rfl rfl (pair_news (by simp) (by simp)) pair_one hc ?_); intro w3 ho3 hg3; have y3 := hg3.cell (kept hB1.out hb xb) (by simpa using hne); have f3 : w3.frozen? ⟨b, 0, none⟩ = false := (World.frozen?_of_block (hg3.block b (Nat.lt_of_lt_of_le hb hB1.out.size) (by simpa using hne))).trans ((World.frozen?_of_block (hB1.out.block b hb)).trans f); subst hk; have hp := h.out.pushed hB1.out ho3 hg3; obtain ⟨hp1, hp2⟩ := hp; clear ho3 hg3))
  all_goals
    go_wp2_with fail
    go_end0
    exact ⟨rfl, hp1.out, hp2.out⟩
end Go.Proofs.YtocbnpkdncnbgaaDoor

