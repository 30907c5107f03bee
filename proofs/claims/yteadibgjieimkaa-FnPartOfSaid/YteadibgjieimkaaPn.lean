/-
  A step of a region that draws its order: append onto what the call owns, of any number of elements; and what FnPartOf asks.
-/
import Derived.Test.YteadibgjieimkaaPk
import Derived.Maps.AppendAt
import Derived.RegionTactic
import Derived.Deep.RegionLaw
namespace Go.Proofs.Yteadibgjieimkaa
set_option maxRecDepth 100000
open Go.RowKit

theorem step_append_any {P : Program} {w : World} {ops : Array Oper} {o : Oper} {a : Act} {K : Act → World → Prop} {Q : Exit → Act → World → Prop} {E : Prop} (hgd : o.guard = none) (s x : Operand) (t : TypeId)
    (ho : o.op = .call { callee := .builtin .append, args := #[s, x], argTypes := #[t, t] })
    (base : Nat) (e : TypeId) (i : TypeInfo) (z : Value) (size bytes : Nat) (ht : P.underlying t = some (.slice e)) (hi : P.info? e = some i) (hz : i.zero = some z)
    (hsize : i.size = size) (hby : i.bytes = bytes) (hzs : z.cells.size = size) (hsz : 0 < size)
    (v : Value) (n : Nat) (xs : List Value) (hs : a.eval s = v) (hown : w.ownsRow base e size v n xs)
    (ad : Addr) (m c : Nat) (news : List Value) (hx : a.eval x = .slice (some ad) m c) (hl : news.length = m * size) (hnews : ∀ j u, news[j]? = some u → w.cell? (ad.add j) = some u) (h1 : ∀ u ∈ news, u.oneCell' = true)
    (h63 : n + m ≤ maxLen) (hbytes : (n + m) * bytes ≤ 140737488355328) (hbase : base ≤ w.heap.size)
    (h : ∀ v' w', w'.ownsRow base e size v' (n + m) (xs ++ news) → w.grownBy w' v.ownBlock → K (a.put o.dst v') w') :
    if Region.wanted o (yielded ops a.tmps) = true then Oper.wp P o a w K Q else E := by
  have hw : Region.wanted o (yielded ops a.tmps) = true := by simp [Region.wanted, hgd]
  rw [if_pos hw]
  obtain ⟨v', w', hr, h2, h3, _, _⟩ := run_append_own_at (P := P) w base t o.type e i z size bytes ht hi hz hsize hby hzs hsz v n xs hown ad m c news hl hnews h1 h63 hbytes hbase
  unfold Oper.wp execOp
  simp only [ho, resolve, invoke, builtin, Sem.run_bind, Sem.run_pure, Result.andThen_ok, List.map_toArray, List.map_cons, List.map_nil, hs, hx, hr]
  exact h v' w' h2 h3

/-- The cells of a part of a list. -/
theorem part_news {w : World} {g n k m : Nat} {xs : List Int} (h : ∀ i, i < n → w.cell? ⟨g, i, none⟩ = some (.int .i64 (xs.getD i 0))) (hl : xs.length = n) (hk : k + m ≤ n) :
    ∀ j u, (((xs.drop k).take m).map (Value.int .i64))[j]? = some u → w.cell? ((⟨g, k, none⟩ : Addr).add j) = some u := by
  intro j u hj
  have hjm : j < m := by have := (List.getElem?_eq_some_iff.1 hj).1; simp at this; omega
  have hc := h (k + j) (by omega)
  have e : (((xs.drop k).take m).map (Value.int .i64))[j]? = some (.int .i64 (xs.getD (k + j) 0)) := by
    rw [List.getElem?_map, List.getElem?_take_of_lt hjm, List.getElem?_drop, List.getElem?_eq_getElem (by omega), getD_elem (by omega)]; rfl
  rw [e] at hj
  cases hj
  by_cases e0 : j = 0
  · subst e0; simpa [Addr.add] using hc
  · simpa [Addr.add, e0] using hc
theorem drop_news {w : World} {g n k : Nat} {xs : List Int} (h : ∀ i, i < n → w.cell? ⟨g, i, none⟩ = some (.int .i64 (xs.getD i 0))) (hl : xs.length = n) (hk : k ≤ n) :
    ∀ j u, ((xs.drop k).map (Value.int .i64))[j]? = some u → w.cell? ((⟨g, k, none⟩ : Addr).add j) = some u := by
  have := part_news (k := k) (m := n - k) h hl (by omega)
  rwa [List.take_of_length_le (by rw [List.length_drop]; omega)] at this
theorem take_news {w : World} {g n k : Nat} {xs : List Int} (h : ∀ i, i < n → w.cell? ⟨g, i, none⟩ = some (.int .i64 (xs.getD i 0))) (hl : xs.length = n) (hk : k ≤ n) :
    ∀ j u, ((xs.take k).map (Value.int .i64))[j]? = some u → w.cell? ((⟨g, 0, none⟩ : Addr).add j) = some u := by
  have := part_news (k := 0) (m := k) h hl (by omega)
  rwa [List.drop_zero] at this
theorem no_news {w : World} {a : Addr} {xs : List Int} (i : Nat) (hk : xs.length ≤ i) : ∀ j u, ((xs.drop i).map (Value.int .i64))[j]? = some u → w.cell? (a.add j) = some u := by
  rw [List.drop_of_length_le hk]; intro j u hj; simp at hj
/-- What the first append leaves. -/
theorem app_first {w w1 : World} {v' : Value} {m : Nat} {L : List Int} (ho : w1.ownsRow w.heap.size 3 1 v' (0 + m) ([] ++ L.map (Value.int .i64))) (hg : ((w.alloc (.cells #[] 3)).drew).grownBy w1 (Value.slice (some ⟨w.heap.size, 0, none⟩) 0 0).ownBlock) :
    ∃ a c, v' = .slice a m c ∧ OwnI w1 w.heap.size a m c L ∧ Below w.heap.size w w1 := by
  rw [Nat.zero_add, List.nil_append] at ho
  obtain ⟨a, c, e, h⟩ := own_of ho
  refine ⟨a, c, e, h, (((Below.refl _ _).alloc (Nat.le_refl _) _).drew).grown hg (by simp) fun k hk => ?_⟩
  simp [Value.ownBlock] at hk; omega
theorem app_second {w w1 w2 : World} {v' : Value} {a : Option Addr} {c n m k : Nat} {L M : List Int} (h1 : OwnI w1 w.heap.size a m c L) (hb : Below w.heap.size w w1) (hk : m + k = n)
    (ho : w2.ownsRow w.heap.size 3 1 v' (m + k) (L.map (Value.int .i64) ++ M.map (Value.int .i64))) (hg : w1.grownBy w2 (Value.slice a m c).ownBlock) :
    ∃ a c, v' = .slice a n c ∧ OwnI w2 w.heap.size a n c (L ++ M) ∧ Below w.heap.size w w2 := by
  rw [hk, ← List.map_append] at ho
  obtain ⟨a', c', e, h⟩ := own_of ho
  refine ⟨a', c', e, h, hb.grown hg hb.size fun g hg => ?_⟩
  rcases h1.cases with ⟨rfl, _, _⟩ | ⟨g', rfl, h2, _⟩
  · cases hg
  · simp [Value.ownBlock] at hg; omega
theorem own_drew_lit (w : World) : ((w.alloc (.cells #[] 3)).drew).ownsRow w.heap.size 3 1 (.slice (some ⟨w.heap.size, 0, none⟩) 0 0) 0 [] :=
  (show OwnI _ _ _ _ _ [] from own_empty w w.heap.size w.heap.size rfl (Nat.le_refl _)).bel ((Below.refl _ _).drew)
theorem rot_el {xs : List Int} (h : elB xs = true) (k : Nat) : elB (xs.drop k ++ xs.take k) = true := by rw [el_perm (rot_perm xs k)]; exact h
theorem rot_sort (xs : List Int) (k : Nat) : sortL (xs.drop k ++ xs.take k) = sortL xs := sort_congr (rot_perm xs k)
theorem rot_len {xs : List Int} {n k : Nat} (hl : xs.length = n) : (xs.drop k ++ xs.take k).length = n := by
  rw [(rot_perm xs k).length_eq]; exact hl
theorem sort_total {xs : List Int} (h : elB xs = true) : psum (sortL xs) (sortL xs).length = psum xs xs.length := psum_perm (sort_perm h)
end Go.Proofs.Yteadibgjieimkaa

