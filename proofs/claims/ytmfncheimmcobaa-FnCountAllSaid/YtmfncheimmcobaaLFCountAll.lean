/-
  For every slice of bytes the law FnCountAll answers true: as many images with counted other cells, and where there are few choices a simple product; nothing that was there is written; no condition.
-/
import Derived.Test.YtmfncheimmcobaaO
import Derived.Test.YtmfncheimmcobaaK
import Derived.Deep.RegionLaw
import Derived.Test.YtmfncheimmcobaaYa
import Derived.Test.YtmfncheimmcobaaYc
import Derived.Test.YtmfncheimmcobaaJp
import Derived.Test.YtmfncheimmcobaaJf
import Derived.Test.YtmfncheimmcobaaMd
namespace Go.Proofs.Ytmfncheimmcobaa.LFCountAll
open Go.ChangeShapes Go.WideShapes Go.ChangeAt Go.RowKit Go.Joins

theorem allC_pos {W : Nat} (hW : W < 7) : ∀ rows : List Int, (∀ r, r ∈ rows → 0 ≤ r ∧ r ≤ W) → 1 ≤ allC W rows
  | [], _ => Int.le_refl _
  | r :: rows, h => by
    have h0 := h r (List.mem_cons_self ..)
    have h1 := (cho_few W hW r.toNat (by omega)).2.1
    have h2 := allC_pos hW rows fun q hq => h q (List.mem_cons_of_mem _ hq)
    show 1 ≤ choI W r.toNat * allC W rows
    have h3 := Int.mul_le_mul h1 h2 (by omega) (by omega)
    omega

def simI (W : Int) (xs : List Int) : Nat → Int
  | 0 => 1
  | k + 1 => if xs.getD k 0 = 1 ∨ xs.getD k 0 = W - 1 then simI W xs k * W else simI W xs k
def fewB (W : Int) (xs : List Int) : Nat → Bool
  | 0 => true
  | k + 1 => if xs.getD k 0 = 1 ∨ xs.getD k 0 = W - 1 then fewB W xs k else if xs.getD k 0 = 0 ∨ xs.getD k 0 = W then fewB W xs k else false
theorem simI_bd {W : Nat} (h1 : 1 ≤ W) (h6 : W ≤ 6) (xs : List Int) : ∀ k : Nat, 1 ≤ simI W xs k ∧ simI W xs k ≤ ((6 ^ k : Nat) : Int)
  | 0 => ⟨Int.le_refl _, Int.le_refl _⟩
  | k + 1 => by
    have ih := simI_bd h1 h6 xs k
    have e : ((6 ^ (k + 1) : Nat) : Int) = ((6 ^ k : Nat) : Int) * 6 := by rw [Nat.pow_succ]; push_cast; rfl
    rw [e]
    show 1 ≤ (if xs.getD k 0 = 1 ∨ xs.getD k 0 = W - 1 then simI W xs k * W else simI W xs k) ∧ _
    have a1 : simI W xs k * 1 ≤ simI W xs k * W := Int.mul_le_mul_of_nonneg_left (by omega) (by omega)
    have a2 : simI W xs k * W ≤ simI W xs k * 6 := Int.mul_le_mul_of_nonneg_left (by omega) (by omega)
    show _ ∧ (if xs.getD k 0 = 1 ∨ xs.getD k 0 = W - 1 then simI W xs k * W else simI W xs k) ≤ _
    split <;> constructor <;> omega
theorem sim_few {W : Nat} (h2 : 2 ≤ W) (h6 : W ≤ 6) {xs : List Int} : ∀ k : Nat, fewB W xs k = true → simI W xs k = prodI (fun i => choI W (xs.getD i 0).toNat) k
  | 0, _ => rfl
  | k + 1, h => by
    have ih := sim_few h2 h6 (xs := xs) k
    have ce := cho_ends W (by omega)
    have ce2 := ce.2.2 (by omega)
    unfold fewB at h
    unfold simI prodI
    by_cases e : xs.getD k 0 = 1 ∨ xs.getD k 0 = W - 1
    · rw [if_pos e] at h ⊢
      rw [ih h]
      have e9 : choI W (xs.getD k 0).toNat = W := by
        rcases e with e | e
        · rw [e]; exact ce2.1
        · rw [e, show ((W : Int) - 1).toNat = W - 1 by omega]; exact ce2.2
      rw [e9]
    · rw [if_neg e] at h ⊢
      by_cases e2 : xs.getD k 0 = 0 ∨ xs.getD k 0 = W
      · rw [if_pos e2] at h
        rw [ih h]
        have e9 : choI W (xs.getD k 0).toNat = 1 := by
          rcases e2 with e2 | e2
          · rw [e2]; exact ce.1
          · rw [e2, Int.toNat_natCast]; exact ce.2.1
        rw [e9, Int.mul_one]
      · rw [if_neg e2] at h; cases h
theorem allC_back {W : Nat} (h6 : W < 7) : ∀ xs : List Int, (∀ r, r ∈ xs → 0 ≤ r ∧ r ≤ W) → allC W (xs.map fun r => (W : Int) - r) = allC W xs
  | [], _ => rfl
  | r :: xs, h => by
    have h0 := h r (List.mem_cons_self ..)
    have h1 := (cho_few W h6 r.toNat (by omega)).1
    have h2 := allC_back h6 xs fun q hq => h q (List.mem_cons_of_mem _ hq)
    show choI W ((W : Int) - r).toNat * allC W (xs.map fun r => (W : Int) - r) = choI W r.toNat * allC W xs
    rw [h2, h1, show ((W : Int) - r).toNat = W - r.toNat by omega]

set_option maxHeartbeats 2000000 in
set_option maxRecDepth 100000 in
theorem walk (a : Option Addr) (len cap : Nat) (zs : List Int) (w : World) (h : Bys w a len zs) (hl : len ≤ cap) (hm : cap ≤ 9223372036854775807) :
    Calls Try.prog 9 #[.slice a len cap] w fun e w' => e = .returned (.bool true) ∧ Below w.heap.size w w' := by
  by_cases hbig : 1048576 < len
  · clear h
    go_enter Try.func9, Try.ntmps9
    go_wp2_with fail
    go_ret
    exact ⟨rfl, Below.refl _ _⟩
  go_enter Try.func9, Try.ntmps9
  go_wp2_with fail
  refine (draw_DrawCountAll a len cap zs _ h hl hm).mono ?_
  rintro e w1 ⟨aR, n, cR, xs, v, rfl, hR, hn, hcap, hv0, hb1⟩
  clear h hl hm
  have bb := Lib.hid hb1
  have p := Lib.hid hR.row
  have lx := hR.len
  have hn13 : n ≤ 13 := by omega
  clear hR hb1
  obtain ⟨N, hN⟩ : ∃ N, caO xs v = N := ⟨_, rfl⟩
  go_wp2_with fail
  refine (ca_ok hN _ _ _ p.out hn13).mono ?_
  rintro e w2 ⟨rfl, hb⟩
  have szw2 := hb.size
  replace p := Lib.hid (p.out.bel hb)
  replace bb := Lib.hid (bb.out.trans (hb.mono bb.out.size))
  clear hb
  go_wp2_with fail
  refine (ca_sok hN _ _ _ p.out hn13).mono ?_
  rintro e w3 ⟨rfl, hb⟩
  have szw3 := hb.size
  replace p := Lib.hid (p.out.bel hb)
  replace bb := Lib.hid (bb.out.trans (hb.mono bb.out.size))
  clear hb
  by_cases hne : nestB xs v = true
  case neg =>
    obtain rfl : N = -1 := by rw [← hN]; exact if_neg hne
    replace hne := Lib.hid hne
    go_wp2_with fail
    go_ret
    exact ⟨rfl, bb.out⟩
  obtain ⟨W, rfl⟩ := Int.eq_ofNat_of_zero_le hv0.1
  have hp := nestB_parts hne
  rw [lx] at hp
  have hn1 := hp.1.1
  have hn6 := hp.1.2
  have hW1 := hp.2.1.1
  have hW6 := hp.2.1.2
  have hx := hp.2.2
  have hmem : ∀ r, r ∈ xs → 0 ≤ r ∧ r ≤ W := fun r hr => by
    obtain ⟨i, hi, rfl⟩ := List.getElem_of_mem hr
    have := hx i (by omega)
    rw [getD_elem hi] at this
    exact this
  have hNc : allC W xs = N := (if_pos hne).symm.trans hN
  have hN1 := allC_pos (by omega) xs hmem
  rw [hNc] at hN1
  have hN0 : ¬ N < 0 := by omega
  have g0 : decide (0 < N) = true := decide_eq_true (by omega)
  clear hp hv0
  replace hN := Lib.hid hN
  replace hne := Lib.hid hne
  have hXm : nestB (xs.map fun r => (W : Int) - r) W = true := by
    unfold nestB
    rw [Bool.and_eq_true, Bool.and_eq_true]
    refine ⟨inB_yes (by rw [List.length_map]; omega) (by rw [List.length_map]; omega), inB_yes (by omega) (by omega), allIn_iff.2 fun i hi => ?_⟩
    rw [List.length_map] at hi
    have := hx i (by omega)
    rw [show (xs.map fun r => (W : Int) - r).getD i 0 = (W : Int) - xs.getD i 0 by simp [List.getD_eq_getElem?_getD, List.getElem?_map, List.getElem?_eq_getElem hi]]
    omega
  have hXN : Hid (caO (xs.map fun r => (W : Int) - r) W = N) := Lib.hid ((if_pos hXm).trans ((allC_back (by omega) xs hmem).trans hNc))
  obtain ⟨X, hX⟩ : ∃ X, (xs.map fun r => (W : Int) - r) = X := ⟨_, rfl⟩
  have hXl : X.length = n := by rw [← hX, List.length_map]; exact lx
  have hXg : Hid (∀ j, j < n → X.getD j 0 = (W : Int) - xs.getD j 0) := Lib.hid fun j hj => by rw [← hX]; simp [List.getD_eq_getElem?_getD, List.getElem?_map, List.getElem?_eq_getElem (show j < xs.length by omega)]
  rw [hX] at hXN
  have hsb : Hid (∀ k, k ≤ 6 → 1 ≤ simI W xs k ∧ simI W xs k ≤ 46656) := Lib.hid fun k hk => by
    have h := simI_bd hW1 hW6 xs k
    have h2 : 6 ^ k ≤ 6 ^ 6 := Nat.pow_le_pow_right (by omega) hk
    exact ⟨h.1, by omega⟩
  have hfs : Hid (2 ≤ W → fewB W xs n = true → simI W xs n = N) := Lib.hid fun h2 h => by rw [sim_few h2 hW6 n h, ← hNc, allC_prod, lx]
  have hw1 : Hid (W = 1 → N = 1) := Lib.hid fun h => by
    subst h
    rw [← hNc, allC_prod]
    have hone : ∀ k, k ≤ n → prodI (fun i => choI ((1 : Nat) : Int) (xs.getD i 0).toNat) k = 1 := fun k => by
      induction k with
      | zero => intro _; rfl
      | succ k ih =>
        intro hk
        have h9 := hx k (by omega)
        have h8 : (xs.getD k 0).toNat = 0 ∨ (xs.getD k 0).toNat = 1 := by omega
        unfold prodI
        rw [ih (by omega)]
        rcases h8 with e | e <;> rw [e] <;> decide
    rw [lx]; exact hone n (Nat.le_refl _)
  have hxx := Lib.hid hx
  replace hX := Lib.hid hX
  clear hXm hmem hx hNc
  have ho0 : Hid (OwnI (w3.alloc (.cells #[] 3)) w3.heap.size (some ⟨w3.heap.size, 0, none⟩) 0 0 (X.take 0)) := own_empty w3 w3.heap.size w3.heap.size rfl (Nat.le_refl _)
  have hb0 : Hid (Below w3.heap.size w3 (w3.alloc (.cells #[] 3))) := (Below.refl _ _).alloc (Nat.le_refl _) _
  go_wp2_with fail
  go_loopw [7, 8, 9, 10] (fun o s f v wr => ∃ j g c : Nat, j ≤ n ∧ v = .int .i64 j ∧ s = .int .i64 (simI W xs j) ∧ f = .bool (fewB W xs j) ∧ o = .slice (some ⟨g, 0, none⟩) j c ∧ Hid (OwnI wr w3.heap.size (some ⟨g, 0, none⟩) j c (X.take j)) ∧ Hid (Below w3.heap.size w3 wr)) (fun _ _ _ v _ => n - (intOf v).toNat)
  case atStart => exact ⟨0, _, 0, Nat.zero_le _, rfl, rfl, rfl, rfl, ho0, hb0⟩
  case round =>
    clear ho0 hb0
    obtain ⟨j, g, c, hj, rfl, rfl, rfl, rfl, hO, hB⟩ := hrel
    obtain ⟨wo, rfl⟩ : ∃ wo : World, wo = wr := ⟨_, rfl⟩
    have hBs := hB.out.size
    have hgg : w3.heap.size ≤ g ∧ g < wo.heap.size := rng_own hO.out _ rfl
    by_cases hlt : j < n
    · obtain ⟨pb, po, rfl, hc⟩ := row_at (p.out.bel hB.out) hlt
      have hy := hxx.out j hlt
      have hsj := hsb.out j (by omega)
      have hMj := hXg.out j hlt
      have htk : X.take (j + 1) = X.take j ++ [X.getD j 0] := by rw [List.take_add_one]; simp [List.getElem?_eq_getElem (show j < X.length by omega), List.getD_eq_getElem?_getD]
      rw [hMj] at htk
      have hs1 : simI W xs (j + 1) = if xs.getD j 0 = 1 ∨ xs.getD j 0 = (W : Int) - 1 then simI W xs j * W else simI W xs j := rfl
      have hf1 : fewB W xs (j + 1) = if xs.getD j 0 = 1 ∨ xs.getD j 0 = (W : Int) - 1 then fewB W xs j else if xs.getD j 0 = 0 ∨ xs.getD j 0 = W then fewB W xs j else false := rfl
      obtain ⟨v, hvv⟩ : ∃ v, xs.getD j 0 = v := ⟨_, rfl⟩
      obtain ⟨S, hS⟩ : ∃ S, simI W xs j = S := ⟨_, rfl⟩
      obtain ⟨B, hBB⟩ : ∃ B, fewB W xs j = B := ⟨_, rfl⟩
      rw [hvv] at hc hy htk hs1 hf1
      rw [hS] at hs1 hsj
      rw [hBB] at hf1
      rw [hS, hBB]
      have iv : IntKind.i64.wrap ((W : Int) - v) = (W : Int) - v := IntWalk.i64_in _ ⟨by omega, by omega⟩
      have iw1 : IntKind.i64.wrap ((W : Int) - 1) = (W : Int) - 1 := IntWalk.i64_in _ ⟨by omega, by omega⟩
      have m1 : 0 ≤ S * W := Int.mul_nonneg (by omega) (by omega)
      have m2 : S * W ≤ S * 6 := Int.mul_le_mul_of_nonneg_left (by omega) (by omega)
      have im1 : wrap64 (S * W) = S * W := IntWalk.wrap64_in _ ⟨by omega, by omega⟩
      have im2 : IntKind.i64.wrap (S * W) = S * W := IntWalk.i64_in _ ⟨by omega, by omega⟩
      obtain ⟨Q, hQ⟩ : ∃ Q, S * (W : Int) = Q := ⟨_, rfl⟩
      replace im1 := im1.trans hQ
      replace im2 := im2.trans hQ
      rw [hQ] at hs1
      clear m1 m2
      obtain ⟨Mj, hMj2⟩ : ∃ Mj, X.take j = Mj := ⟨_, rfl⟩
      rw [hMj2] at hO htk
      replace htk := Lib.hid htk
      replace hvv := Lib.hid hvv
      replace hMj2 := Lib.hid hMj2
      replace hS := Lib.hid hS
      replace hBB := Lib.hid hBB
      replace hQ := Lib.hid hQ
      replace hs1 := Lib.hid hs1
      replace hf1 := Lib.hid hf1
      clear hMj
      go_wp2_with (at_builtin; refine wpList_append_int rfl _ _ rfl w3.heap.size g j c Mj rfl (World.ownsRow.alloc hO.out _) wo.heap.size rfl ((W : Int) - v) (by simp) (by omega) (by simp; omega) ?_)
      intro g' c' wz3 hown0 hgr hlies
      have hown : OwnI wz3 w3.heap.size (some ⟨g', 0, none⟩) (j + 1) c' (X.take (j + 1)) := by rw [htk.out]; unfold OwnI; simpa using hown0
      have hB3 := Lib.hid ((hB.out.alloc hBs (.cells #[.int .i64 ((W : Int) - v)] 3)).grown hgr (by simp; omega) (fun q hq => by cases hq; exact hgg.1))
      obtain ⟨qb, qo, eq, hc2⟩ := row_at (p.out.bel hB3.out) hlt
      cases eq
      rw [hvv.out] at hc2
      replace hown := Lib.hid hown
      clear hgr hlies hO hB hgg hc hown0
      have fin : ∀ (s' : Int) (f' : Bool), simI W xs (j + 1) = s' → fewB W xs (j + 1) = f' → (∃ j_1 g_1 c_1 : Nat, j_1 ≤ n ∧ Value.int .i64 ((j + 1 : Nat) : Int) = .int .i64 j_1 ∧ Value.int .i64 s' = .int .i64 (simI W xs j_1) ∧ Value.bool f' = .bool (fewB W xs j_1) ∧ Value.slice (some ⟨g', 0, none⟩) (j + 1) c' = .slice (some ⟨g_1, 0, none⟩) j_1 c_1 ∧ Hid (OwnI wz3 w3.heap.size (some ⟨g_1, 0, none⟩) j_1 c_1 (X.take j_1)) ∧ Hid (Below w3.heap.size w3 wz3)) := fun s' f' h1 h2 => ⟨j + 1, g', c', by omega, rfl, by rw [h1], by rw [h2], rfl, hown, hB3⟩
      by_cases e1 : v = 1
      · have t1 : (v == 1) = true := by rw [beq_iff_eq]; exact e1
        have s9 := hs1.out.trans (if_pos (.inl e1))
        have f9 := hf1.out.trans (if_pos (.inl e1))
        subst e1
        replace s9 := Lib.hid s9
        replace f9 := Lib.hid f9
        go_wp2_with fail
        exact ⟨⟨j + 1, g', c', by omega, by go_num, by rw [s9.out], by rw [f9.out], rfl, hown, hB3⟩, by simp [intOf]; omega⟩
      by_cases e2 : v = (W : Int) - 1
      · have t1 : (v == 1) = false := by rw [beq_eq_false_iff_ne]; exact e1
        have t2 : (v == (W : Int) - 1) = true := by rw [beq_iff_eq]; exact e2
        have s9 := Lib.hid (hs1.out.trans (if_pos (.inr e2)))
        have f9 := Lib.hid (hf1.out.trans (if_pos (.inr e2)))
        go_wp2_with fail
        exact ⟨⟨j + 1, g', c', by omega, by go_num, by rw [s9.out], by rw [f9.out], rfl, hown, hB3⟩, by simp [intOf]; omega⟩
      have t1 : (v == 1) = false := by rw [beq_eq_false_iff_ne]; exact e1
      have t2 : (v == (W : Int) - 1) = false := by rw [beq_eq_false_iff_ne]; exact e2
      have ne : ¬ (v = 1 ∨ v = (W : Int) - 1) := fun h => h.elim e1 e2
      have s9 := Lib.hid (hs1.out.trans (if_neg ne))
      have f8 := hf1.out.trans (if_neg ne)
      by_cases e3 : v = 0
      · have f9 := Lib.hid (f8.trans (if_pos (.inl e3)))
        clear f8
        have t3 : (v == 0) = true := by rw [beq_iff_eq]; exact e3
        go_wp2_with fail
        exact ⟨⟨j + 1, g', c', by omega, by go_num, by rw [s9.out], by rw [f9.out], rfl, hown, hB3⟩, by simp [intOf]; omega⟩
      have t3 : (v == 0) = false := by rw [beq_eq_false_iff_ne]; exact e3
      by_cases e4 : v = W
      · have f9 := Lib.hid (f8.trans (if_pos (.inr e4)))
        clear f8
        have t4 : (v == (W : Int)) = true := by rw [beq_iff_eq]; exact e4
        have n3 : (v != 0) = true := by rw [bne_iff_ne]; exact e3
        have n4 : (v != (W : Int)) = false := by rw [bne_eq_false_iff_eq]; exact e4
        replace e4 := Lib.hid e4
        go_wp2_with fail
        exact ⟨⟨j + 1, g', c', by omega, by go_num, by rw [s9.out], by rw [f9.out], rfl, hown, hB3⟩, by simp [intOf]; omega⟩
      have t4 : (v == (W : Int)) = false := by rw [beq_eq_false_iff_ne]; exact e4
      have f9 := Lib.hid (f8.trans (if_neg fun h => h.elim e3 e4))
      have n3 : (v != 0) = true := by rw [bne_iff_ne]; exact e3
      have n4 : (v != (W : Int)) = true := by rw [bne_iff_ne]; exact e4
      clear f8
      go_wp2_with fail
      exact ⟨⟨j + 1, g', c', by omega, by go_num, by rw [s9.out], by rw [f9.out], rfl, hown, hB3⟩, by simp [intOf]; omega⟩
    obtain rfl : j = n := by omega
    rw [List.take_of_length_le (by omega)] at hO
    have hb := hB.out
    have v_ := Lib.hid hO.out.row
    clear hO hgg
    have szwo := hb.size
    replace p := Lib.hid (p.out.bel hb)
    replace bb := Lib.hid (bb.out.trans (hb.mono bb.out.size))
    clear hb
    clear hB hsb
    obtain ⟨S, hS⟩ : ∃ S, simI W xs j = S := ⟨_, rfl⟩
    obtain ⟨B, hBB⟩ : ∃ B, fewB W xs j = B := ⟨_, rfl⟩
    rw [hS, hBB] at hfs
    rw [hS, hBB]
    replace hS := Lib.hid hS
    replace hBB := Lib.hid hBB
    by_cases h1 : W = 1
    case pos =>
      have hN9 := hw1.out h1
      subst h1
      subst hN9
      go_wp2_with fail
      go_ret
      exact ⟨rfl, bb.out⟩
    have h2 : 2 ≤ W := by omega
    have w1n : ((W : Int) == 1) = false := by rw [beq_eq_false_iff_ne]; omega
    replace hfs := hfs.out h2
    cases B with
    | false =>
      clear hfs
      go_wp2_with fail
      refine (ca_ok hXN.out _ _ _ v_.out hn13).mono ?_
      rintro e w4 ⟨rfl, hb⟩
      have szw4 := hb.size
      replace p := Lib.hid (p.out.bel hb)
      replace v_ := Lib.hid (v_.out.bel hb)
      replace bb := Lib.hid (bb.out.trans (hb.mono bb.out.size))
      clear hb
      go_wp2_with fail
      go_ret
      exact ⟨rfl, bb.out⟩
    | true =>
      obtain rfl := hfs rfl
      clear hfs
      go_wp2_with fail
      refine (ca_ok hXN.out _ _ _ v_.out hn13).mono ?_
      rintro e w5 ⟨rfl, hb⟩
      have szw5 := hb.size
      replace p := Lib.hid (p.out.bel hb)
      replace v_ := Lib.hid (v_.out.bel hb)
      replace bb := Lib.hid (bb.out.trans (hb.mono bb.out.size))
      clear hb
      go_wp2_with fail
      go_ret
      exact ⟨rfl, bb.out⟩

set_option maxRecDepth 100000 in
theorem lifted (os : Os) (started : os.Started) (H : Type) (enc : TypeId × Value → H) :
    ReturnsInHanded {} Try.checked os 9 .any (Rows.fnCountAllSpec.pre6 enc Try.prog Try.f9 Rows.fnCountAllRow.domain false) (Rows.fnCountAllSpec.post enc Try.prog Try.f9 false true false false) := by
  refine returnsInHanded_of_change (C := Try.checked) own started (by kernel_rfl) Try.func9
    (ChangeSpec.witness6 (enc := enc) (C := Try.checked) false ⟨#[], #[.slice none 0 0], []⟩ 8 (by kernel_rfl) (by kernel_rfl) (by kernel_rfl) (by kernel_rfl)) ?_
  intro W base args ds gs before hval0 hW hcnd _
  have hval : ∀ (j : Nat) t v, Try.f9.params[j]? = some t → args[j]? = some v → Value.okWide Try.prog W .any base t v := hval0
  have hW' := hW
  obtain ⟨p, q, hA0, hV, rfl, hfz, hnd⟩ := hW
  have hA : DataW.TrodAll enc Try.prog W 0 (fun _ => true) true Try.f9.params.toList args.toList ds p := hA0
  rw [Try.params9] at hA hval
  obtain ⟨v0, vs0, d0, ds0, p0, q0, hargs, rfl, rfl, h0, r0⟩ := trodAll_cons hA
  obtain ⟨rfl, rfl, rfl⟩ := trodAll_nil r0
  obtain rfl : args = #[v0] := by cases args; simp_all
  obtain ⟨rfl, rfl⟩ := trodVars_none hV
  have k0 := h0
  have lt0 : ∀ x ∈ p0, x.block < W.heap.size := by obtain ⟨m, hm⟩ := k0; exact DataW.trod_lt m _ _ _ hm
  obtain ⟨a0, len0, cap0, z0, rfl, w0, l0, m0⟩ := open_code (hval 0 22 v0 rfl rfl) h0
  clear hA0 hval0
  refine (walk a0 len0 cap0 z0 W w0 l0 m0).mono fun e W' ⟨he, bel⟩ => ?_
  subst he
  exact ⟨_, rfl, _, _, _, [], _, [], hW', trodAll_mk1 (shut_bool Try.underlying4 _), (trodAll_cons_mk (Below.trod laidOut (by kernel_rfl) (of_decide_eq_true (by kernel_rfl)) k0 bel lt0) trodAll_mk0), rfl, bel.frame _, fun h => by cases h⟩

theorem closed : joinedFacts Try.prog 9 Try.f9 Rows.fnCountAllSpec Rows.fnCountAllRow = true := by
  simp only [joinedFacts, Bool.and_eq_true]
  repeat' apply And.intro
  all_goals first | with_reducible exact mayEnterOk | (with_reducible rw [liftsFinalOk]; kernel_rfl) | (with_reducible rw [makeOk]; kernel_rfl) | kernel_rfl

theorem over : Rows.fnCountAllRow.holds Try.pinned (OpenSpec.ofChange Rows.fnCountAllSpec) :=
  OpenClaim.holds_of_wide 9 Try.f9 rfl rfl rfl rfl rfl rfl rfl ⟨rfl, rfl, rfl, rfl, rfl⟩ rfl rfl rfl rfl rfl (by kernel_rfl) Try.func9 closed
    (of_decide_eq_true (by kernel_rfl)) (by unfold Func.isWrapper; first | (rw [if_pos (by decide +kernel)]; kernel_rfl) | (rw [if_neg (by decide +kernel)]; exact ⟨rfl, rfl⟩))
    (fun os started H enc _ => lifted os started H enc)

theorem proved : Rows.FnCountAllSaid := over
#print axioms proved
end Go.Proofs.Ytmfncheimmcobaa.LFCountAll

