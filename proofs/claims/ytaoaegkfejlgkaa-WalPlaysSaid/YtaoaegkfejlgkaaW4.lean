/-
  payloadAt of package wal: the payload of the record that stands at a place, or none.
-/
import Derived.Test.YtaoaegkfejlgkaaW3
namespace Go.Proofs.Ytaoaegkfejlgkaa.Dsk
open Go.RowKit
/-- A payload, or none. -/
def PayR (w : World) (o : Option (List UInt8)) (e : Ending) (w' : World) : Prop :=
  match o with
  | none => e = .returned (.slice none 0 0) ∧ Below w.heap.size w w'
  | some x => Fresh w x e w'
theorem payAt_none {h : List UInt8} {g p : Nat} (c : (h.drop p).length < 9 ∨ num (h.drop p) < 1 ∨ 65536 < num (h.drop p) ∨ (h.drop p).length < 9 + num (h.drop p) ∨ (h.drop p).getD 8 0 ≠ 1 ∨ num ((h.drop p).drop 4) ≠ rsum g p (((h.drop p).drop 9).take (num (h.drop p)))) : payAt h g p = none := by
  unfold payAt
  simp only
  rw [if_pos c]
theorem payAt_yes {h : List UInt8} {g p : Nat} (c : ¬ ((h.drop p).length < 9 ∨ num (h.drop p) < 1 ∨ 65536 < num (h.drop p) ∨ (h.drop p).length < 9 + num (h.drop p) ∨ (h.drop p).getD 8 0 ≠ 1 ∨ num ((h.drop p).drop 4) ≠ rsum g p (((h.drop p).drop 9).take (num (h.drop p))))) : payAt h g p = some (((h.drop p).drop 9).take (num (h.drop p))) := by
  unfold payAt
  simp only
  rw [if_neg c]
/-- The ways of payloadAt. -/
theorem pay_ways (h : List UInt8) (g p r N M T : Nat) (m : UInt8) (x : List UInt8) (hr : (h.drop p).length = r) (hN : num (h.drop p) = N) (hM : num ((h.drop p).drop 4) = M) (hm : (h.drop p).getD 8 0 = m) (hx : ((h.drop p).drop 9).take N = x) (hT : rsum g p x = T) :
    (r < 9 ∧ payAt h g p = none) ∨ (9 ≤ r ∧ (N < 1 ∨ 65536 < N) ∧ payAt h g p = none) ∨ (9 ≤ r ∧ 1 ≤ N ∧ N ≤ 65536 ∧ r < 9 + N ∧ payAt h g p = none) ∨ (1 ≤ N ∧ N ≤ 65536 ∧ 9 + N ≤ r ∧ m ≠ 1 ∧ payAt h g p = none) ∨
    (1 ≤ N ∧ N ≤ 65536 ∧ 9 + N ≤ r ∧ m = 1 ∧ M ≠ T ∧ payAt h g p = none) ∨ (1 ≤ N ∧ N ≤ 65536 ∧ 9 + N ≤ r ∧ m = 1 ∧ M = T ∧ payAt h g p = some x) := by
  have a := @payAt_none h g p
  have b := @payAt_yes h g p
  rw [hr, hN, hM, hm, hx, hT] at a b
  by_cases c1 : r < 9
  · exact .inl ⟨c1, a (.inl c1)⟩
  by_cases c2 : N < 1 ∨ 65536 < N
  · exact .inr (.inl ⟨by omega, c2, a (by rcases c2 with c2 | c2; exact .inr (.inl c2); exact .inr (.inr (.inl c2)))⟩)
  by_cases c3 : r < 9 + N
  · exact .inr (.inr (.inl ⟨by omega, by omega, by omega, c3, a (.inr (.inr (.inr (.inl c3))))⟩))
  by_cases c4 : m = 1
  · by_cases c5 : M = T
    · refine .inr (.inr (.inr (.inr (.inr ⟨by omega, by omega, by omega, c4, c5, b ?_⟩))))
      rintro (d | d | d | d | d | d)
      · exact c1 d
      · exact c2 (.inl d)
      · exact c2 (.inr d)
      · exact c3 d
      · exact d c4
      · exact d c5
    · exact .inr (.inr (.inr (.inr (.inl ⟨by omega, by omega, by omega, c4, c5, a (.inr (.inr (.inr (.inr (.inr c5)))))⟩))))
  · exact .inr (.inr (.inr (.inl ⟨by omega, by omega, by omega, c4, a (.inr (.inr (.inr (.inr (.inl c4)))))⟩)))
set_option maxRecDepth 100000
set_option maxHeartbeats 4000000 in
theorem pay_any (w : World) (q : Nat) (h : List UInt8) (hk : Blk w q 5 (bc h)) (g p : Nat) (hg : g < 4294967296) (hp : p ≤ h.length) (hl : h.length ≤ 2000000) :
    Calls Try.prog 53 #[.slice (some ⟨q, 0, none⟩) h.length h.length, .int .i64 (g : Int), .int .i64 (p : Int)] w (PayR w (payAt h g p)) := by
  obtain ⟨r, hr⟩ : ∃ r, (h.drop p).length = r := ⟨_, rfl⟩
  have hrL : r = h.length - p := by rw [← hr, List.length_drop]
  obtain ⟨N, hN⟩ : ∃ N, num (h.drop p) = N := ⟨_, rfl⟩
  obtain ⟨M, hM⟩ : ∃ M, num ((h.drop p).drop 4) = M := ⟨_, rfl⟩
  obtain ⟨m, hm⟩ : ∃ m, (h.drop p).getD 8 0 = m := ⟨_, rfl⟩
  obtain ⟨x, hx⟩ : ∃ x, ((h.drop p).drop 9).take N = x := ⟨_, rfl⟩
  obtain ⟨T, hT⟩ : ∃ T, rsum g p x = T := ⟨_, rfl⟩
  have hNl : N < 4294967296 := hN ▸ num_lt _
  obtain ⟨P, hP, hP'⟩ := run_from q h.length p hp
  rw [← hrL] at hP
  have ways := pay_ways h g p r N M T m x hr hN hM hm hx hT
  generalize payAt h g p = o at *
  have HK := Lib.hid (fun W (hb : Below w.heap.size w W) => hk.below hb hk.lt)
  have HG1 := Lib.hid (fun W c (hb : Below w.heap.size w W) (h9 : 9 ≤ r) => wget_any W (some ⟨q, p, none⟩) c (· = q) ((h.drop p).take 4) (by rw [List.length_take, hr]; omega) (Rd.of_part (HK.out W hb)))
  rw [num_take, hN] at HG1
  have HG2 := Lib.hid (fun W c (hb : Below w.heap.size w W) (h9 : 9 ≤ r) => wget_any W (some ⟨q, p + 4, none⟩) c (· = q) ((h.drop (p + 4)).take 4) (by rw [List.length_take, List.length_drop]; omega) (Rd.of_part (HK.out W hb)))
  rw [num_take, ← List.drop_drop, hM] at HG2
  have HRx := Lib.hid (fun W (hb : Below w.heap.size w W) => (show Rd W (· = q) (some ⟨q, p + 9, none⟩) x by
    rw [← hx, List.drop_drop]; exact Rd.of_part (HK.out W hb)))
  have HC8 := Lib.hid (fun W (hb : Below w.heap.size w W) (h9 : 9 ≤ r) => (show W.cell? ⟨q, p + 8, none⟩ = some (.int .u8 (m.toNat : Nat)) by
    rw [(HK.out W hb).cell, bc_get _ _ (by omega), ← hm]
    simp [List.getD_eq_getElem?_getD, List.getElem?_drop]))
  have HXl : Hid (9 + N ≤ r → x.length = N) := Lib.hid (fun hh => by rw [← hx, List.length_take, List.length_drop, hr]; omega)
  have HSm := Lib.hid (fun W c (hb : Below w.heap.size w W) (hNN : 9 + N ≤ r) (hc : N ≤ c) (hN6 : N ≤ 65536) => (show Calls Try.prog 43 #[.int .i64 (g : Int), .int .i64 (p : Int), .slice (some ⟨q, p + 9, none⟩) N c] W fun e w' => e = .returned (.int .u32 (rsum g p x : Nat)) ∧ Below W.heap.size W w' by
    have e := HXl.out hNN
    have := rsum_any W g p (· = q) (some ⟨q, p + 9, none⟩) c x (HRx.out W hb) (by rw [e]; exact hc) hg (by omega) (by rw [e]; omega)
    rwa [e] at this))
  rw [hT] at HSm
  have HP' := Lib.hid (fun (h9 : 9 ≤ r) => hP' (by omega))
  clear hP' hT hx hm hM hN hg hk HK
  generalize h.length = L at *
  rcases ways with ⟨h9, rfl⟩ | ⟨h9, hNb, rfl⟩ | ⟨h9, hN1, hN6, hNr, rfl⟩ | ⟨hN1, hN6, hNr, hm, rfl⟩ | ⟨hN1, hN6, hNr, rfl, hMT, rfl⟩ | ⟨hN1, hN6, hNr, rfl, rfl, rfl⟩
  · have f9 : (r : Int) < 9 := by omega
    clear hp hrL hr h9 HP'
    go_enter Try.func53, Try.ntmps53
    go_wp2
    go_ret
    exact ⟨rfl, Below.refl _ _⟩
  · have HNb := Lib.hid hNb
    obtain rfl := HP'.out (by omega)
    have f4 : (4 : Int) ≤ (r : Int) := by omega
    have f4n : ¬ r = 4 := by omega
    have f9 : ¬ (r : Int) < 9 := by omega
    have f8 : (8 : Int) ≤ (r : Int) := by omega
    have f8n : 8 < r := by omega
    have w4 : IntKind.i64.wrap (N : Int) = N := by rw [IntKind.wrap_i64]; omega
    have H9 := Lib.hid (show 9 ≤ r by omega)
    clear hp hrL hr hNb h9
    go_enter Try.func53, Try.ntmps53
    go_wp2_with fail
    with_reducible refine (HG1.out w _ (Below.refl _ _) H9.out).mono ?_
    rintro e w1 ⟨rfl, k1, rfl⟩
    have HB1 := Lib.hid (below_drewN (Below.refl w.heap.size w) k1)
    generalize w.drewN k1 = w1 at *
    go_wp2_with fail
    with_reducible refine (cost_bad w1 N HNb.out).mono ?_
    rintro e w2 ⟨rfl, rfl⟩
    go_wp2
    go_ret
    exact ⟨rfl, HB1.out⟩
  · have HN1 := Lib.hid hN1
    have HN6 := Lib.hid hN6
    obtain ⟨t, ht⟩ : ∃ t, t = 9 + N := ⟨_, rfl⟩
    have HT := Lib.hid ht
    have t0 : ((t : Int) == 0) = false := by simp; omega
    obtain rfl := HP'.out (by omega)
    have f4 : (4 : Int) ≤ (r : Int) := by omega
    have f4n : ¬ r = 4 := by omega
    have f9 : ¬ (r : Int) < 9 := by omega
    have f8 : (8 : Int) ≤ (r : Int) := by omega
    have f8n : 8 < r := by omega
    have w4 : IntKind.i64.wrap (N : Int) = N := by rw [IntKind.wrap_i64]; omega
    have H9 := Lib.hid (show 9 ≤ r by omega)
    have t1 : (r : Int) < (t : Int) := by omega
    clear hp hrL hr hN1 hN6 hNr h9 ht
    go_enter Try.func53, Try.ntmps53
    go_wp2_with fail
    with_reducible refine (HG1.out w _ (Below.refl _ _) H9.out).mono ?_
    rintro e w1 ⟨rfl, k1, rfl⟩
    have HB1 := Lib.hid (below_drewN (Below.refl w.heap.size w) k1)
    generalize w.drewN k1 = w1 at *
    go_wp2_with fail
    with_reducible refine (cost_ok w1 N HN1.out HN6.out).mono ?_
    rintro e w2 ⟨rfl, rfl⟩
    rw [← HT.out]
    go_wp2
    go_ret
    exact ⟨rfl, HB1.out⟩
  · have HN1 := Lib.hid hN1
    have HN6 := Lib.hid hN6
    obtain ⟨t, ht⟩ : ∃ t, t = 9 + N := ⟨_, rfl⟩
    have HT := Lib.hid ht
    have t0 : ((t : Int) == 0) = false := by simp; omega
    obtain rfl := HP'.out (by omega)
    have f4 : (4 : Int) ≤ (r : Int) := by omega
    have f4n : ¬ r = 4 := by omega
    have f9 : ¬ (r : Int) < 9 := by omega
    have f8 : (8 : Int) ≤ (r : Int) := by omega
    have f8n : 8 < r := by omega
    have w4 : IntKind.i64.wrap (N : Int) = N := by rw [IntKind.wrap_i64]; omega
    have H9 := Lib.hid (show 9 ≤ r by omega)
    have t1 : ¬ (r : Int) < (t : Int) := by omega
    have t2 : (9 : Int) ≤ (t : Int) := by omega
    have t3 : (t : Int) ≤ (r : Int) := by omega
    have t4 : ¬ r = 9 := by omega
    have t5 : t ≤ r := by omega
    have t6 : t - 9 = N := by omega
    have HNr := Lib.hid hNr
    have HN9 : Hid (N ≤ r - 9) := Lib.hid (by omega)
    have e1 : (((m.toNat : Nat) : Int) != 1) = true := u8_ne hm
    have c8 := fun W (hb : Below w.heap.size w W) => HC8.out W hb H9.out
    have HC := Lib.hid c8
    clear c8
    clear hp hrL hr hN1 hN6 hNr ht hm
    go_enter Try.func53, Try.ntmps53
    go_wp2_with fail
    with_reducible refine (HG1.out w _ (Below.refl _ _) H9.out).mono ?_
    rintro e w1 ⟨rfl, k1, rfl⟩
    have HB1 := Lib.hid (below_drewN (Below.refl w.heap.size w) k1)
    generalize w.drewN k1 = w1 at *
    go_wp2_with fail
    with_reducible refine (cost_ok w1 N HN1.out HN6.out).mono ?_
    rintro e w2 ⟨rfl, rfl⟩
    rw [← HT.out]
    have hc8 := HC.out w1 HB1.out
    go_wp2
    go_ret
    exact ⟨rfl, HB1.out⟩
  · have HN1 := Lib.hid hN1
    have HN6 := Lib.hid hN6
    obtain ⟨t, ht⟩ : ∃ t, t = 9 + N := ⟨_, rfl⟩
    have HT := Lib.hid ht
    have t0 : ((t : Int) == 0) = false := by simp; omega
    obtain rfl := HP'.out (by omega)
    have f4 : (4 : Int) ≤ (r : Int) := by omega
    have f4n : ¬ r = 4 := by omega
    have f9 : ¬ (r : Int) < 9 := by omega
    have f8 : (8 : Int) ≤ (r : Int) := by omega
    have f8n : 8 < r := by omega
    have w4 : IntKind.i64.wrap (N : Int) = N := by rw [IntKind.wrap_i64]; omega
    have H9 := Lib.hid (show 9 ≤ r by omega)
    have t1 : ¬ (r : Int) < (t : Int) := by omega
    have t2 : (9 : Int) ≤ (t : Int) := by omega
    have t3 : (t : Int) ≤ (r : Int) := by omega
    have t4 : ¬ r = 9 := by omega
    have t5 : t ≤ r := by omega
    have t6 : t - 9 = N := by omega
    have HNr := Lib.hid hNr
    have HN9 : Hid (N ≤ r - 9) := Lib.hid (by omega)
    have c8 := fun W (hb : Below w.heap.size w W) => HC8.out W hb H9.out
    rw [show (((UInt8.toNat 1 : Nat) : Int)) = 1 from rfl] at c8
    have HC := Lib.hid c8
    clear c8
    have HX := Lib.hid (HXl.out hNr)
    have e3 := int_ne hMT
    clear hp hrL hr hN1 hN6 hNr ht hMT
    go_enter Try.func53, Try.ntmps53
    go_wp2_with fail
    with_reducible refine (HG1.out w _ (Below.refl _ _) H9.out).mono ?_
    rintro e w1 ⟨rfl, k1, rfl⟩
    have HB1 := Lib.hid (below_drewN (Below.refl w.heap.size w) k1)
    generalize w.drewN k1 = w1 at *
    go_wp2_with fail
    with_reducible refine (cost_ok w1 N HN1.out HN6.out).mono ?_
    rintro e w2 ⟨rfl, rfl⟩
    rw [← HT.out]
    have hc8 := HC.out w1 HB1.out
    go_wp2_with (go_at_call 51; go_must (with_reducible refine (HG2.out w1 _ HB1.out H9.out).mono ?_); rintro e w3 ⟨rfl, k3, rfl⟩)
    have HB3 := Lib.hid (below_drewN HB1.out k3)
    generalize w1.drewN k3 = w3 at *
    clear hc8
    go_wp2_with (go_at_call 43; go_must (with_reducible refine (HSm.out w3 _ HB3.out HNr.out HN9.out HN6.out).mono ?_); rintro e w4 ⟨rfl, hb4⟩)
    go_wp2
    go_ret
    exact ⟨rfl, HB3.out.trans (hb4.mono HB3.out.size)⟩
  · have HN1 := Lib.hid hN1
    have HN6 := Lib.hid hN6
    obtain ⟨t, ht⟩ : ∃ t, t = 9 + N := ⟨_, rfl⟩
    have HT := Lib.hid ht
    have t0 : ((t : Int) == 0) = false := by simp; omega
    obtain rfl := HP'.out (by omega)
    have f4 : (4 : Int) ≤ (r : Int) := by omega
    have f4n : ¬ r = 4 := by omega
    have f9 : ¬ (r : Int) < 9 := by omega
    have f8 : (8 : Int) ≤ (r : Int) := by omega
    have f8n : 8 < r := by omega
    have w4 : IntKind.i64.wrap (N : Int) = N := by rw [IntKind.wrap_i64]; omega
    have H9 := Lib.hid (show 9 ≤ r by omega)
    have t1 : ¬ (r : Int) < (t : Int) := by omega
    have t2 : (9 : Int) ≤ (t : Int) := by omega
    have t3 : (t : Int) ≤ (r : Int) := by omega
    have t4 : ¬ r = 9 := by omega
    have t5 : t ≤ r := by omega
    have t6 : t - 9 = N := by omega
    have HNr := Lib.hid hNr
    have HN9 : Hid (N ≤ r - 9) := Lib.hid (by omega)
    have c8 := fun W (hb : Below w.heap.size w W) => HC8.out W hb H9.out
    rw [show (((UInt8.toNat 1 : Nat) : Int)) = 1 from rfl] at c8
    have HC := Lib.hid c8
    clear c8
    have HX := Lib.hid (HXl.out hNr)
    clear hp hrL hr hN1 hN6 hNr ht
    go_enter Try.func53, Try.ntmps53
    go_wp2_with fail
    with_reducible refine (HG1.out w _ (Below.refl _ _) H9.out).mono ?_
    rintro e w1 ⟨rfl, k1, rfl⟩
    have HB1 := Lib.hid (below_drewN (Below.refl w.heap.size w) k1)
    generalize w.drewN k1 = w1 at *
    go_wp2_with fail
    with_reducible refine (cost_ok w1 N HN1.out HN6.out).mono ?_
    rintro e w2 ⟨rfl, rfl⟩
    rw [← HT.out]
    have hc8 := HC.out w1 HB1.out
    go_wp2_with (go_at_call 51; go_must (with_reducible refine (HG2.out w1 _ HB1.out H9.out).mono ?_); rintro e w3 ⟨rfl, k3, rfl⟩)
    have HB3 := Lib.hid (below_drewN HB1.out k3)
    generalize w1.drewN k3 = w3 at *
    clear hc8
    go_wp2_with (go_at_call 43; go_must (with_reducible refine (HSm.out w3 _ HB3.out HNr.out HN9.out HN6.out).mono ?_); rintro e w4 ⟨rfl, hb4⟩)
    have HB4 := Lib.hid (HB3.out.trans (hb4.mono HB3.out.size))
    clear hb4
    have HCl := Lib.hid (fun W c (hb : Below w.heap.size w W) => (show Calls Try.prog 29 #[.slice (some ⟨q, p + 9, none⟩) N c] W (Fresh W x) by
      have := clone_any W (· = q) ⟨q, p + 9, none⟩ c x (HRx.out W hb) (by rw [HX.out]; exact HN1.out) (by rw [HX.out]; exact Nat.le_trans HN6.out (by decide))
      rwa [HX.out] at this))
    go_wp2_with fail
    with_reducible refine (HCl.out w4 _ HB4.out).mono ?_
    rintro e w5 ⟨pp, cc, rfl, i1, i2, i3, i4, i5⟩
    go_wp2
    go_ret
    exact ⟨pp, cc, rfl, i1, i2, Nat.le_trans HB4.out.size i3, i4, HB4.out.trans (i5.mono HB4.out.size)⟩
end Go.Proofs.Ytaoaegkfejlgkaa.Dsk
