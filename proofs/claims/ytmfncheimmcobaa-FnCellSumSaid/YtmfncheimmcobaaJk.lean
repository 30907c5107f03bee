/-
  Plain facts: images with a set cell, counted with column sums as keys.
-/
import Derived.Test.YtmfncheimmcobaaJj
import Derived.Test.YtmfncheimmcobaaJe
namespace Go.Proofs.Ytmfncheimmcobaa
set_option maxRecDepth 100000

theorem suml_fil {α : Type} (p : α → Bool) (F : α → Int) : ∀ xs : List α, sumL (fun x => if p x = true then F x else 0) xs = sumL F (xs.filter p)
  | [] => rfl
  | x :: xs => by
    have := suml_fil p F xs
    show (if p x = true then F x else 0) + _ = _
    by_cases h : p x = true
    · rw [if_pos h, List.filter_cons_of_pos h, this]; rfl
    · rw [if_neg h, List.filter_cons_of_neg h, this]; omega
/-- The rows of one list that have a cell. -/
def bitL (j : Nat) (L : List Int) : List Int := L.filter fun m => decide (bitI m j = 1)
theorem cell_ckr {rows cols : List Int} (hs : sumsB rows cols = true) {i j : Nat} (hi : i < rows.length) :
    ckr ((choC cols.length rows).set i (bitL j (withL cols.length (rows.getD i 0) (pn cols.length)))) (padL cols) = cntC rows cols i j := by
  obtain ⟨h1, h2, h3, h4⟩ := sumsB_parts hs
  have hc : i < (choC cols.length rows).length := by rw [cho_len]; exact hi
  rw [← cell_way j hi, List.set_eq_take_append_cons_drop, if_pos hc, ckr_mid]
  have e : (choC cols.length rows).take i ++ (choC cols.length rows).drop (i + 1) = choC cols.length (delL i rows) := by
    unfold choC delL; rw [List.map_append, List.map_take, List.map_drop]
  rw [e]
  unfold bitL cellW
  rw [← suml_fil, with_sum]
  refine (sum_ext fun m hm => ?_)
  have h := step_ckr (W := cols.length) (by omega) (others := delL i rows) rfl (fun j hj => (h4 j hj).1) (way_ckr (by omega) _) hm
  rw [← h]
  by_cases hr : cntI (m : Nat) cols.length = rows.getD i 0
  · rw [if_pos hr]
    by_cases hb : bitI (m : Nat) j = 1
    · rw [if_pos (decide_eq_true hb)]
      by_cases ht : takeB cols (m : Nat) = true
      · rw [if_pos ht, if_pos ⟨⟨hr, hb⟩, ht⟩]
      · rw [if_neg ht, if_neg fun h => ht h.2]
    · rw [if_neg (by simpa using hb), if_neg fun h => hb h.1.2]
  · rw [if_neg hr, if_neg fun h => hr h.1.1]
end Go.Proofs.Ytmfncheimmcobaa

