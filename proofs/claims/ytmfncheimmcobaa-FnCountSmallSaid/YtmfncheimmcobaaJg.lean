/-
  Plain facts: images counted one by one.
-/
import Derived.Test.YtmfncheimmcobaaJa
import Derived.Test.YtmfncheimmcobaaNh
namespace Go.Proofs.Ytmfncheimmcobaa
set_option maxRecDepth 100000

/-- Counted one by one. -/
theorem cnt_small {xs : List Int} {W n : Nat} (hI : Im W n xs) : cntS (rsL xs W n) (csL xs n W) = ((smallL xs W n (pw (n * W)).toNat).length : Int) := by
  have hp := pw_pos (n * W)
  have hn : (smallL xs W n (pw (n * W)).toNat).Nodup := small_pair _ (by omega)
  have back : ∀ {L : List Int}, L ∈ smallL xs W n (pw (n * W)).toNat → Im W n L ∧ SumE xs L W n := fun {L} hL => by
    obtain ⟨x, hx, rfl, hs⟩ := small_mem.1 hL
    have hI' := dig_im hI.w1 hI.w6 hI.l1 hI.l6 (x : Int)
    obtain ⟨K, eK, _, _, _, _, hse⟩ := same_im hI.hl hI'.hl hs
    obtain rfl : W = K := by omega
    exact ⟨hI', hse⟩
  have fwd : ∀ {L : List Int}, Im W n L → SumE xs L W n → L ∈ smallL xs W n (pw (n * W)).toNat := fun {ys} hy hs => by
    have hd := dig_num hy
    obtain ⟨x, hx⟩ := Int.eq_ofNat_of_zero_le hd.1
    rw [hx] at hd
    exact small_mem.2 ⟨x, by omega, hd.2.2.symm, hI.same hy hs.1 hs.2⟩
  unfold cntS
  rw [rs_len, cs_len, nOf_len]
  have a := nodup_sub (M := (imgs W n).filter (fitP (rsL xs W n) (csL xs n W) W n)) hn fun y hy => by
    obtain ⟨hy', hs⟩ := back hy
    exact List.mem_filter.2 (fit_im hy' hs.1.symm hs.2.symm)
  have b := nodup_sub (M := smallL xs W n (pw (n * W)).toNat) ((imgs_nodup W n).filter (fitP (rsL xs W n) (csL xs n W) W n)) fun y hy => by
    obtain ⟨hm, hp⟩ := List.mem_filter.1 hy
    obtain ⟨h1, h2⟩ := fitP_iff.1 hp
    exact fwd ((imgs_im hI.w1 hI.w6 hI.l1 hI.l6).1 hm) ⟨h1.symm, h2.symm⟩
  omega

end Go.Proofs.Ytmfncheimmcobaa

