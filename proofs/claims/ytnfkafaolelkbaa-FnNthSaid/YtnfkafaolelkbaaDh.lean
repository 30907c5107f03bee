/-
  The heap's own methods (Len, Less, Swap, Pop, Push): how they are found, their contracts.
  The contracts of container/heap at the heap of lines: down, up, Init, Pop, Push.
  The contracts of container/heap at the heap of lines: Init, Pop, Push.
  The contracts of openLinesOf and take.
  The contracts of the canvases' set and of build.
-/
import Derived.Test.YtnfkafaolelkbaaDa
import Derived.RegionTactic
import Derived.Deep.RegionLaw
import Derived.Test.YtnfkafaolelkbaaCe

namespace Go.Proofs.Ytnfkafaolelkbaa
set_option maxRecDepth 100000
open Go.RowKit

/-- A step of a region that draws its order: append within the capacity. -/
theorem step_append_fits {P : Program} {w : World} {ops : Array Oper} {o : Oper} {a : Act} {K : Act → World → Prop} {Q : Exit → Act → World → Prop} {E : Prop} (hgd : o.guard = none) (s x : Operand) (t : TypeId)
    (ho : o.op = .call { callee := .builtin .append, args := #[s, x], argTypes := #[t, t] })
    (base : Nat) (e : TypeId) (i : TypeInfo) (size : Nat) (ht : P.underlying t = some (.slice e)) (hi : P.info? e = some i) (hsize : i.size = size)
    (g k cap : Nat) (xs : List Value) (hs : a.eval s = .slice (some ⟨g, 0, none⟩) k cap) (hown : w.ownsRow base e size (.slice (some ⟨g, 0, none⟩) k cap) k xs)
    (ad : Addr) (m c : Nat) (news : List Value) (hx : a.eval x = .slice (some ad) m c) (hl : news.length = m * size) (hnews : ∀ j u, news[j]? = some u → w.cell? (ad.add j) = some u) (h1 : ∀ u ∈ news, u.oneCell' = true)
    (b1 : k + m ≤ cap)
    (h : ∀ w', w'.ownsRow base e size (.slice (some ⟨g, 0, none⟩) (k + m) cap) (k + m) (xs ++ news) → w.grownBy w' (some g) → K (a.put o.dst (.slice (some ⟨g, 0, none⟩) (k + m) cap)) w') :
    if Region.wanted o (yielded ops a.tmps) = true then Oper.wp P o a w K Q else E := by
  have hw : Region.wanted o (yielded ops a.tmps) = true := by simp [Region.wanted, hgd]
  rw [if_pos hw]
  obtain ⟨w', hr, h2, h3⟩ := run_append_fits (P := P) w base t o.type e i size ht hi hsize g k cap xs hown ad m c news hl hnews h1 b1
  unfold Oper.wp execOp
  simp only [ho, resolve, invoke, builtin, Sem.run_bind, Sem.run_pure, Result.andThen_ok, List.map_toArray, List.map_cons, List.map_nil, hs, hx, hr]
  exact h w' h2 h3
theorem pair_news {w2 : World} {k : Nat} {x y : Int} (h0 : w2.cell? ⟨k, 0, none⟩ = some (.int .i64 x)) (h1 : w2.cell? ⟨k, 1, none⟩ = some (.int .i64 y)) :
    ∀ j u, [Value.int .i64 x, .int .i64 y][j]? = some u → w2.cell? ((⟨k, 0, none⟩ : Addr).add j) = some u := by
  intro j u hj
  match j, hj with
  | 0, hj => cases hj; simpa [Addr.add] using h0
  | 1, hj => cases hj; simpa [Addr.add] using h1
  | j + 2, hj => simp at hj
theorem pair_one {x y : Int} : ∀ u ∈ [Value.int .i64 x, .int .i64 y], u.oneCell' = true := by
  intro u hu
  rcases List.mem_cons.1 hu with rfl | hu
  · rfl
  · rcases List.mem_cons.1 hu with rfl | hu
    · rfl
    · cases hu
end Go.Proofs.Ytnfkafaolelkbaa

namespace Go.Proofs.Ytnfkafaolelkbaa
set_option maxRecDepth 100000
open Go.RowKit

end Go.Proofs.Ytnfkafaolelkbaa

namespace Go.Proofs.Ytnfkafaolelkbaa
set_option maxRecDepth 100000
open Go.RowKit

theorem HP.onward {L : PL} {n lo lo2 : Nat} (h : HP L n lo) (hl : lo ≤ lo2) : HP L n lo2 := fun k hk hkn h2 => h k hk hkn (by omega)
theorem pget_take {L : PL} {n k : Nat} (hk : k < n) : pget (L.take n) k = pget L k := by
  unfold pget; rw [List.getD_eq_getElem?_getD, List.getElem?_take_of_lt hk, ← List.getD_eq_getElem?_getD]
theorem pget_app {L M : PL} {k : Nat} (hk : k < L.length) : pget (L ++ M) k = pget L k := by
  unfold pget; rw [List.getD_eq_getElem?_getD, List.getElem?_append_left hk, ← List.getD_eq_getElem?_getD]
theorem take_last {L : PL} {n : Nat} (h : L.length = n + 1) : L = L.take n ++ [pget L n] := by
  rw [pget_elem (by omega)]
  conv => lhs; rw [← List.take_append_drop n L]
  rw [List.drop_eq_getElem_cons (by omega), List.drop_of_length_le (by omega)]

end Go.Proofs.Ytnfkafaolelkbaa

namespace Go.Proofs.Ytnfkafaolelkbaa
set_option maxRecDepth 100000
open Go.RowKit

/-- The lines of a function. -/
def lns (f : Nat → Int) (n : Nat) : PL := (List.range n).map (pr f)
theorem lns_len (f : Nat → Int) (n : Nat) : (lns f n).length = n := by simp [lns]
theorem lns_get {f : Nat → Int} {n k : Nat} (hk : k < n) : pget (lns f n) k = ((k : Int), f k) := by
  rw [pget_elem (by rw [lns_len]; exact hk)]; simp [lns, pr]
/-- The lines as far as a place. -/
def lnsM (f : Nat → Int) (n j : Nat) : PL := (List.range n).map fun i => if i < j then ((i : Int), f i) else (0, 0)
theorem lnsM_len (f : Nat → Int) (n j : Nat) : (lnsM f n j).length = n := by simp [lnsM]
theorem lnsM_zero (f : Nat → Int) (n : Nat) : lnsM f n 0 = List.replicate n (0, 0) := by
  apply List.ext_getElem (by simp [lnsM])
  intro i h1 h2; simp [lnsM]
theorem lnsM_set {f : Nat → Int} {n j : Nat} : (lnsM f n j).set j ((j : Int), f j) = lnsM f n (j + 1) := by
  apply List.ext_getElem (by simp [lnsM])
  intro i h1 h2
  rw [List.getElem_set]
  by_cases e : j = i
  · subst e; simp [lnsM]
  · rw [if_neg e]; simp only [lnsM, List.getElem_map, List.getElem_range]
    by_cases e2 : i < j
    · rw [if_pos e2, if_pos (by omega)]
    · rw [if_neg e2, if_neg (by omega)]
theorem lnsM_full (f : Nat → Int) (n : Nat) : lnsM f n n = lns f n := by
  unfold lnsM lns
  exact List.map_congr_left fun i hi => by rw [List.mem_range] at hi; rw [if_pos hi]; rfl

theorem made_two (n : Nat) : (madeCells (Value.agg #[.int .i64 0, .int .i64 0]).cells (n * 2)).toList = List.replicate (n * 2) (.int .i64 0) := by
  apply List.ext_getElem?
  intro j
  by_cases hj : j < n * 2
  · rcases Nat.mod_two_eq_zero_or_one j with e | e <;> simp [madeCells, hj, Value.cells, e]
  · simp [madeCells, hj]
theorem Ch.setNew {b g k : Nat} {w w' : World} (h : Ch b g w w') (hk : w.heap.size ≤ k) (j : Nat) (v : Value) : Ch b g w (w'.setCell ⟨k, j, none⟩ v) :=
  ⟨h.os, h.tape, h.output, by simpa [World.setCell] using h.size, fun q hq h1 h2 => (Below.heap_setCell _ _ _ _ (show q ≠ k by omega)).trans (h.block q hq h1 h2)⟩
/-- The indexes taken. -/
def ix (I : List Nat) (c : Nat) : List Int := rowsL (fun k => ((I.getD k 0 : Nat) : Int)) c
theorem nat_app {I : List Nat} {i k : Nat} : (I ++ [i]).getD k 0 = if k = I.length then i else I.getD k 0 := by
  rw [List.getD_eq_getElem?_getD, List.getD_eq_getElem?_getD]
  by_cases e : k < I.length
  · rw [List.getElem?_append_left e, if_neg (by omega)]
  · by_cases e2 : k = I.length
    · subst e2; simp
    · rw [if_neg e2, List.getElem?_eq_none (by simp; omega), List.getElem?_eq_none (by omega)]
theorem ix_nil (c : Nat) : ix [] c = List.replicate c 0 := by rw [← rows_zero]; exact rows_ext fun _ _ => rfl
theorem ix_set {I : List Nat} {i c : Nat} (h : I.length < c) : (ix I c).set I.length (i : Int) = ix (I ++ [i]) c :=
  rows_set _ _ h (by rw [nat_app, if_pos rfl]) fun k _ hne => by rw [nat_app, if_neg hne]
theorem ix_get {I : List Nat} {c k : Nat} (hk : k < c) : (ix I c).getD k 0 = ((I.getD k 0 : Nat) : Int) := rows_get (fun k => ((I.getD k 0 : Nat) : Int)) hk
theorem ix_len (I : List Nat) (c : Nat) : (ix I c).length = c := rows_len _ _
/-- The lines taken. -/
def tk (f : Nat → Int) (I : List Nat) (c : Nat) : PL := (List.range c).map fun k => if k < I.length then pr f (I.getD k 0) else (0, 0)
theorem tk_len (f : Nat → Int) (I : List Nat) (c : Nat) : (tk f I c).length = c := by simp [tk]
theorem tk_nil (f : Nat → Int) (c : Nat) : tk f [] c = List.replicate c (0, 0) := by
  apply List.ext_getElem (by simp [tk])
  intro i h1 h2; simp [tk]
theorem tk_get {f : Nat → Int} {I : List Nat} {c k : Nat} (hk : k < c) (hI : k < I.length) : pget (tk f I c) k = pr f (I.getD k 0) := by
  rw [pget_elem (by rw [tk_len]; exact hk)]; simp only [tk, List.getElem_map, List.getElem_range]; rw [if_pos hI]
theorem tk_set {f : Nat → Int} {I : List Nat} {i c : Nat} : (tk f I c).set I.length (pr f i) = tk f (I ++ [i]) c := by
  apply List.ext_getElem (by simp [tk])
  intro k h1 h2
  rw [List.getElem_set]
  simp only [tk, List.getElem_map, List.getElem_range]
  by_cases e : I.length = k
  · subst e; rw [if_pos rfl, if_pos (by simp), nat_app, if_pos rfl]
  · rw [if_neg e, nat_app, if_neg (Ne.symm e)]
    by_cases e2 : k < I.length
    · rw [if_pos e2, if_pos (by simp; omega)]
    · rw [if_neg e2, if_neg (by simp; omega)]
theorem back_perm {f : Nat → Int} {I J : List Nat} {m : Nat} {M M' : PL} (hm : m < I.length) (h : M.Perm ((I.take m).map (fun k : Nat => ((k : Int), f k - 1)) ++ J.map (pr f))) (h' : M'.Perm ((((I.getD m 0 : Nat) : Int), f (I.getD m 0) - 1) :: M)) :
    M'.Perm ((I.take (m + 1)).map (fun k : Nat => ((k : Int), f k - 1)) ++ J.map (pr f)) := by
  have e : I.getD m 0 = I[m] := by simp [hm]
  rw [e] at h'
  refine h'.trans ((h.cons _).trans ?_)
  rw [List.take_succ_eq_append_getElem hm, List.map_append, List.append_assoc]
  exact (List.perm_middle).symm

end Go.Proofs.Ytnfkafaolelkbaa

namespace Go.Proofs.Ytnfkafaolelkbaa
set_option maxRecDepth 100000
open Go.RowKit

/-- A canvas: its type, its method, the rows that its cells make. -/
structure Cnv (T : TypeId) (F : FuncId) (X : (Nat → Nat → Bool) → List Int) (len nl nk : Nat) : Prop where
  me : ∀ (s : Option Addr) (n cap : Nat) (w : World), (Go.method 238 T (.slice s n cap) "loop.example/discretetomography/impl.set").run Try.prog w = .ok (F, .slice s n cap) w
  na : ∀ (s : Option Addr) (n cap : Nat) (w : World), (nilAhead 238 T (.slice s n cap) "loop.example/discretetomography/impl.set").run Try.prog w = .ok (some false) w
  set : ∀ (B k cap : Nat) (c : Nat → Nat → Bool) (l a : Nat) (w : World), l < nl → a < nk → OwnI w B (some ⟨k, 0, none⟩) len cap (X c) →
    Calls Try.prog F #[.slice (some ⟨k, 0, none⟩) len cap, .int .i64 l, .int .i64 a] w fun e w' => e = .returned (.tuple #[]) ∧ w.grownBy w' (some k) ∧ OwnI w' B (some ⟨k, 0, none⟩) len cap (X fun p q => c p q || (decide (p = l) && decide (q = a)))
  ext : ∀ c d : Nat → Nat → Bool, (∀ p q, p < nl → q < nk → c p q = d p q) → X c = X d
theorem grown_ch {b g : Nat} {w wr w' : World} {row : Option Nat} (h : w.grownBy wr row) (hc : Ch b g wr w') (hb : w.heap.size ≤ b) (hg : w.heap.size ≤ g) : w.grownBy w' row :=
  ⟨hc.os.trans h.os, hc.tape.trans h.tape, hc.output.trans h.output, Nat.le_trans h.size hc.size, fun k hk hn => (hc.block k (Nat.lt_of_lt_of_le hk h.size) (by omega) (by omega)).trans (h.block k hk hn)⟩
theorem grown_bel {w wr w' : World} {row : Option Nat} (h : w.grownBy wr row) (hb : Below wr.heap.size wr w') : w.grownBy w' row := grown_trans h (below_grown hb _)
theorem lns_congr {f g : Nat → Int} {n : Nat} (h : ∀ i, i < n → f i = g i) : lns f n = lns g n := List.map_congr_left fun i hi => by
  rw [List.mem_range] at hi; unfold pr; rw [h i hi]
theorem left_bd {f : Nat → Int} {n j : Nat} {ys : List Int} (i : Nat) : f i - j ≤ leftI f n ys j i ∧ leftI f n ys j i ≤ f i := by
  rw [left_sum]
  have := sum_bd (f := fun k => if bcB f n ys i k = true then (1 : Int) else 0) (fun k => by (try dsimp only); split <;> omega) j
  omega
/-- The cells of the first lines. -/
def upto (f : Nat → Int) (n : Nat) (ys : List Int) (j : Nat) (p q : Nat) : Bool := decide (p < j) && bcB f n ys q p
/-- .. and of the line j those across that are told. -/
def upto2 (f : Nat → Int) (n : Nat) (ys : List Int) (j : Nat) (I : List Nat) (p q : Nat) : Bool := upto f n ys j p q || (decide (p = j) && decide (q ∈ I))
theorem upto2_nil {f : Nat → Int} {n : Nat} {ys : List Int} {j : Nat} : upto2 f n ys j [] = upto f n ys j := by
  funext p q; unfold upto2; simp
theorem upto2_next {f : Nat → Int} {n : Nat} {ys : List Int} {j r : Nat} {I : List Nat} (hr : r < I.length) : (fun p q => upto2 f n ys j (I.take r) p q || (decide (p = j) && decide (q = I.getD r 0))) = upto2 f n ys j (I.take (r + 1)) := by
  funext p q
  have e : I.getD r 0 = I[r] := by simp [hr]
  unfold upto2
  rw [e, List.take_succ_eq_append_getElem hr]
  rw [Bool.eq_iff_iff]
  simp only [Bool.or_eq_true, Bool.and_eq_true, decide_eq_true_eq, List.mem_append, List.mem_singleton]
  constructor
  · rintro ((h | h) | h)
    · exact .inl h
    · exact .inr ⟨h.1, .inl h.2⟩
    · exact .inr ⟨h.1, .inr h.2⟩
  · rintro (h | ⟨h1, h2 | h2⟩)
    · exact .inl (.inl h)
    · exact .inl (.inr ⟨h1, h2⟩)
    · exact .inr ⟨h1, h2⟩
theorem upto2_full {f : Nat → Int} {n : Nat} {ys : List Int} {j : Nat} {I : List Nat} (h : ∀ k, k < n → (k ∈ I ↔ chB (leftI f n ys j) n (ys.getD j 0) k = true)) {p q : Nat} (hq : q < n) : upto2 f n ys j I p q = upto f n ys (j + 1) p q := by
  unfold upto2 upto
  rw [Bool.eq_iff_iff]
  simp only [Bool.or_eq_true, Bool.and_eq_true, decide_eq_true_eq]
  constructor
  · rintro (hh | hh)
    · exact ⟨by omega, hh.2⟩
    · obtain ⟨rfl, h2⟩ := hh; exact ⟨by omega, (h q hq).1 h2⟩
  · rintro ⟨h1, h2⟩
    by_cases e : p < j
    · exact .inl ⟨e, h2⟩
    · have : p = j := by omega
      subst this; exact .inr ⟨rfl, (h q hq).2 h2⟩

end Go.Proofs.Ytnfkafaolelkbaa
