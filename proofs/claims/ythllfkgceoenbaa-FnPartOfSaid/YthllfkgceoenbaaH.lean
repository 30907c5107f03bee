/-
  The contracts of the functions that give an image: copies, cells that are put, and the four functions of chapter 1.
-/
import Derived.Test.YthllfkgceoenbaaD
import Derived.Laws.AppendOwn
import Derived.Deep.AppendLies
import Derived.Deep.RegionHeld3
import Derived.StillTailTactics
namespace Go.Proofs.Ythllfkgceoenbaa
open Go.RowKit

theorem World.cell?_alloc_some {w : World} {a : Addr} {v : Value} {o : Obj} (h : w.cell? a = some v) : (w.alloc o).cell? a = some v := (World.cell?_alloc_lt _ _ _ (block_lt h)).trans h
theorem own_of {w : World} {B n : Nat} {v : Value} {xs : List Int} (h : w.ownsRow B 3 1 v n (xs.map (Value.int .i64))) : ∃ a cap, v = .slice a n cap ∧ OwnI w B a n cap xs := by
  have h' := h
  rcases h'.2 with ⟨rfl, rfl⟩ | ⟨g, c, cur, rfl, _⟩
  · exact ⟨none, 0, rfl, h⟩
  · exact ⟨_, c, rfl, h⟩
theorem own_empty (w : World) (B n : Nat) (hn : n = w.heap.size) (hB : B ≤ n) : (w.alloc (.cells #[] 3)).ownsRow B 3 1 (.slice (some ⟨n, 0, none⟩) 0 0) 0 [] := by
  subst hn; exact World.ownsRow_lit w #[] 0 hB (by decide) rfl
theorem grow2 {W w1 : World} {p0 p1 : Addr} {u0 u1 : Value} {k : Nat} (hg : W.grownBy w1 (some k)) (h : W.cell? p0 = some u0 ∧ W.cell? p1 = some u1) (n0 : p0.block ≠ k) (n1 : p1.block ≠ k) :
    w1.cell? p0 = some u0 ∧ w1.cell? p1 = some u1 := ⟨hg.cell h.1 (by simpa using n0), hg.cell h.2 (by simpa using n1)⟩
theorem OwnI.up {w : World} {B B' g len cap : Nat} {xs : List Int} (h : OwnI w B (some ⟨g, 0, none⟩) len cap xs) (hg : B' ≤ g) : OwnI w B' (some ⟨g, 0, none⟩) len cap xs := by
  obtain ⟨h1, h2⟩ := h
  refine ⟨h1, ?_⟩
  rcases h2 with ⟨h2, _⟩ | ⟨g', c, cur, e, _, r⟩
  · simp at h2
  · have e' := e
    simp only [Value.slice.injEq, Option.some.injEq, Addr.mk.injEq, and_true, true_and] at e'
    obtain ⟨rfl, rfl⟩ := e'
    exact .inr ⟨g, _, cur, rfl, hg, r⟩
theorem st {P : Program} {f : FuncId} {args : Array Value} {w : World} {v : Value} (h : Calls P f args w fun e w' => e = .returned v ∧ w = w') : Calls P f args w fun e w' => e = .returned v ∧ w' = w := h.mono fun _ _ ⟨a, b⟩ => ⟨a, b.symm⟩
theorem region_tail {P : Program} {id : Nat} {Q : Exit → Act → World → Prop} {a : Act} {w : World} {l : List Oper} (n : Nat) (hm : P.follows .mixedOrders = true) (hB : Region.lexTailB .any l.toArray n = true) (W1 : World) (hW : w.drew = W1)
    (h : wpStill P l.toArray W1 (fun a' => wpList P l.toArray Q (l.drop n) a' W1) (l.take n) a) : (Code.region id l.toArray true).wp P Q a w := by
  subst hW; exact wp_region_still_tail n hm hB h
theorem news_of {w : World} {b off len : Nat} {xs : List Int} (hl : xs.length = len) (h : ∀ i, i < len → w.cell? ⟨b, off + i, none⟩ = some (.int .i64 (xs.getD i 0))) :
    ∀ j u, (xs.map (Value.int .i64))[j]? = some u → w.cell? ((⟨b, off, none⟩ : Addr).add j) = some u := by
  intro j u hj
  rw [List.getElem?_map] at hj
  obtain ⟨y, hy, rfl⟩ := Option.map_eq_some_iff.1 hj
  have hjl := (List.getElem?_eq_some_iff.1 hy).1
  have := h j (by omega)
  rw [getD_elem hjl, (List.getElem?_eq_some_iff.1 hy).2] at this
  by_cases e : j = 0
  · subst e; simpa [Addr.add] using this
  · simpa [Addr.add, e] using this

set_option maxHeartbeats 400000 in
theorem clone_any (b off len cap : Nat) (xs : List Int) (w : World) (hl : xs.length = len) (h : ∀ i, i < len → w.cell? ⟨b, off + i, none⟩ = some (.int .i64 (xs.getD i 0))) (hm : len ≤ 1048576) (h1 : 1 ≤ len) :
    Calls Try.prog 43 #[.slice (some ⟨b, off, none⟩) len cap] w fun e w' => (∃ a cap', e = .returned (.slice a len cap') ∧ OwnI w' w.heap.size a len cap' xs) ∧ Below w.heap.size w w' := by
  obtain ⟨i0, hi, hz0, hz1, hz2⟩ := info_parts infoInt
  have hn := Lib.hid (news_of hl h)
  clear h
  have hnil := fun wx => Lib.run_eql_slice_nil (P := Try.prog) wx 23 3 (some ⟨b, off, none⟩) len cap 0 0 Try.underlying23
  go_enter Try.func43, Try.ntmps43
  go_wp2_with (at_builtin; refine wpList_append_own _ rfl _ _ 23 rfl w.heap.size 3 i0 (.int .i64 0) 1 8 Try.underlying23 hi hz0 hz1 hz2 rfl (by decide) _ 0 [] rfl (World.ownsRow_lit w #[] 0 (Nat.le_refl _) (by decide) rfl) ⟨b, off, none⟩ len cap (xs.map (Value.int .i64)) rfl ?c1 ?c2 ?c3 ?c4 ?c5 ?c6 ?_)
  case c1 => simp [hl]
  case c2 => exact fun j u hj => World.cell?_alloc_some (hn.out j u hj)
  case c3 => exact ints_oneCell _ _
  case c4 => unfold maxLen; omega
  case c5 => omega
  case c6 => simp
  intro v' w1 hown hgr hnil'
  obtain ⟨a, c, rfl, ho⟩ := own_of (by simpa using hown)
  have bb : Below w.heap.size w w1 := ((Below.refl _ _).alloc (Nat.le_refl _) _).grown hgr (by simp) (fun k hk => by simp [Value.ownBlock] at hk; omega)
  have ho := Lib.hid ho
  clear hown hgr hnil'
  go_wp2
  go_ret
  exact ⟨⟨a, c, rfl, ho.out⟩, bb⟩

/-- A cell of a row, put. -/
def putI (x : Int) (j : Nat) (set : Bool) : Int := x - bitI x j * pw j + (if set = true then pw j else 0)

theorem putI_false (x : Int) (j : Nat) : putI x j false = x - bitI x j * pw j := by simp [putI]
theorem putI_true (x : Int) (j : Nat) : putI x j true = x - bitI x j * pw j + pw j := by simp [putI]

end Go.Proofs.Ythllfkgceoenbaa

