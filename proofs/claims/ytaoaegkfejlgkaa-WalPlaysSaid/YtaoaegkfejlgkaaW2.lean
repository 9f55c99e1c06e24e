/-
  recordSum, generationOf of package wal.
-/
import Derived.Test.YtaoaegkfejlgkaaW1
namespace Go.Proofs.Ytaoaegkfejlgkaa.Dsk
open Go.RowKit
/-- Bytes that were made, in a row that has just their length. -/
def Made (w : World) (n : Nat) (l : List UInt8) (e : Ending) (w' : World) : Prop := ∃ q, e = .returned (.slice (some ⟨q, 0, none⟩) n n) ∧ w.heap.size ≤ q ∧ Blk w' q 5 (bc l) ∧ Below w.heap.size w w' ∧ w.heap.size ≤ w'.heap.size
theorem put_made (n : Nat) (w : World) (hn : n < 4294967296) : Calls Try.prog 42 #[.int .u32 (n : Int)] w (Made w 4 (be4 n)) := by
  refine (wput_any n w hn).mono ?_
  rintro e w' ⟨rfl, rfl⟩
  exact ⟨_, rfl, Nat.le_refl _, Blk.new w _ _ _ rfl, (Below.refl _ _).alloc (Nat.le_refl _) _, by simp⟩
theorem wrap_u32 {n : Nat} (h : n < 4294967296) : IntKind.u32.wrap (n : Int) = (n : Int) := by rw [IntKind.wrap_u32]; omega
set_option maxRecDepth 100000
set_option maxHeartbeats 1000000 in
theorem rsum_any (w : World) (g p : Nat) (S : Nat → Prop) (A : Option Addr) (c : Nat) (x : List UInt8) (hR : Rd w S A x) (hxc : x.length ≤ c) (hg : g < 4294967296) (hp : p < 4294967296) (hx : x.length ≤ 100000) :
    Calls Try.prog 43 #[.int .i64 (g : Int), .int .i64 (p : Int), .slice A x.length c] w fun e w' => e = .returned (.int .u32 (rsum g p x : Nat)) ∧ Below w.heap.size w w' := by
  have u0 := wrap_u32 hg
  have u1 := wrap_u32 hp
  have u2 := wrap_u32 (n := x.length) (by omega)
  have HR := Lib.hid hR
  have HC := Lib.hid hxc
  have HX := Lib.hid hx
  have HG := Lib.hid hg
  have HP := Lib.hid hp
  obtain ⟨n, hn⟩ : ∃ n, n = x.length := ⟨_, rfl⟩
  have HN := Lib.hid hn
  rw [← hn] at u2 ⊢
  clear hR hxc hx hg hp hn
  go_enter Try.func43, Try.ntmps43
  go_wp2_with fail
  refine (put_made g w HG.out).mono ?_
  rintro e w1 ⟨a1, rfl, hq1, hk1, hb1, hz1⟩
  have HK1 := Lib.hid hk1
  have HB1 := Lib.hid hb1
  clear hk1 hb1
  go_wp2_with fail
  refine (put_made p w1 HP.out).mono ?_
  rintro e w2 ⟨a2, rfl, hq2, hk2, hb2, hz2⟩
  have HK2 := Lib.hid hk2
  have HB2 := Lib.hid hb2
  clear hk2 hb2
  go_wp2_with fail
  refine (put_made n w2 (by have := HN.out; have := HX.out; omega)).mono ?_
  rintro e w3 ⟨a3, rfl, hq3, hk3, hb3, hz3⟩
  have HK3 := Lib.hid hk3
  have HB3 := Lib.hid hb3
  clear hk3 hb3
  have HBa : Hid (Below w.heap.size w w3) := Lib.hid ((HB1.out.trans (HB2.out.mono hz1)).trans (HB3.out.mono (by omega)))
  have r1 : Rd w3 (fun _ => True) (some ⟨a1, 0, none⟩) (be4 g) := (Rd.of_blk ((HK1.out.below HB2.out HK1.out.lt).below HB3.out (by have := HK1.out.lt; omega))).more (fun _ _ => trivial)
  have r2 : Rd w3 (fun _ => True) (some ⟨a2, 0, none⟩) (be4 p) := (Rd.of_blk (HK2.out.below HB3.out HK2.out.lt)).more (fun _ _ => trivial)
  have r3 : Rd w3 (fun _ => True) (some ⟨a3, 0, none⟩) (be4 n) := (Rd.of_blk HK3.out).more (fun _ _ => trivial)
  have r4 : Rd w3 (fun k => S k ∧ k < w.heap.size) A x := by
    have : Rd w (fun k => S k ∧ k < w.heap.size) A x := fun hl => by
      obtain ⟨ad, e, h1, h2, h3⟩ := HR.out hl
      exact ⟨ad, e, ⟨h1, h2⟩, h2, h3⟩
    exact this.below HBa.out (fun k h => h.2)
  have HS := Lib.hid (wsum_four w3 w3.heap.size (some ⟨a1, 0, none⟩) (some ⟨a2, 0, none⟩) (some ⟨a3, 0, none⟩) A 4 4 4 n 4 4 4 c _ _ _ _ (be4 g) (be4 p) (be4 n) x rfl r1 r2 r3 r4 rfl rfl rfl HN.out.symm (Nat.le_refl _) (Nat.le_refl _) (Nat.le_refl _) HC.out (by have := HX.out; simp only [be4_length]; omega) _ rfl)
  clear r1 r2 r3 r4
  go_wp2_with (go_at_call 52; go_must (refine HS.out.mono ?_); rintro e w4 ⟨rfl, hb4⟩)
  go_ret
  have hr : rsum g p x = csum (be4 g ++ (be4 p ++ (be4 n ++ x))) := by unfold rsum; rw [HN.out]
  rw [hr]
  exact ⟨rfl, HBa.out.trans (hb4.mono (by omega))⟩
/-- A number of a head, and its sum. -/
theorem genOf_mark {l : List UInt8} (h : l.getD 8 0 ≠ 1) : genOf l = 0 := by unfold genOf; rw [if_neg (fun c => h c.1)]
theorem genOf_great {l : List UInt8} (h : 2147483647 < num l) : genOf l = 0 := by unfold genOf; rw [if_neg (fun c => by omega)]
theorem genOf_sum {l : List UInt8} (h : num (l.drop 4) ≠ csum (l.take 4)) : genOf l = 0 := by unfold genOf; rw [if_neg (fun c => h c.2.2)]
theorem genOf_yes {l : List UInt8} (h1 : l.getD 8 0 = 1) (h2 : ¬ 2147483647 < num l) (h3 : num (l.drop 4) = csum (l.take 4)) : genOf l = num l := by unfold genOf; rw [if_pos ⟨h1, by omega, h3⟩]
theorem u8_ne {x y : UInt8} (h : x ≠ y) : (((x.toNat : Nat) : Int) != ((y.toNat : Nat) : Int)) = true := by
  have : x.toNat ≠ y.toNat := fun e => h (UInt8.toNat_inj.1 e)
  simp; omega
theorem int_ne {a b : Nat} (h : a ≠ b) : (((a : Nat) : Int) != ((b : Nat) : Int)) = true := by simp; omega
theorem genOf_any (w : World) (g : Nat) (l : List UInt8) (hk : Blk w g 5 (bc l)) (h1 : 500 ≤ l.length) (h2 : l.length ≤ 2000000) :
    Calls Try.prog 38 #[.slice (some ⟨g, 0, none⟩) l.length l.length] w fun e w' => e = .returned (.int .i64 (genOf l : Nat)) ∧ Below w.heap.size w w' := by
  have c1 := run_upto (some ⟨g, 0, none⟩) l.length l.length 4 (by omega)
  obtain ⟨P, c2, hP⟩ := run_part g l.length 4 8 (by omega) (by omega)
  obtain rfl := hP (by omega)
  have c8 : ∀ w' : World, Below w.heap.size w w' → w'.cell? ⟨g, 8, none⟩ = some (.int .u8 ((l.getD 8 0).toNat : Nat)) := fun w' hb => by rw [(hk.below hb hk.lt).cell]; exact bc_get _ _ (by omega)
  have HK := Lib.hid hk
  have g1 := fun W c => wget_any W (some ⟨g, 0, none⟩) c (· = g) (l.take 4) (by rw [List.length_take]; omega)
  have g2 := fun W c => wget_any W (some ⟨g, 4, none⟩) c (· = g) ((l.drop 4).take 4) (by rw [List.length_take, List.length_drop]; omega)
  rw [num_take] at g1 g2
  have HG1 := Lib.hid g1
  have HG2 := Lib.hid g2
  have HS := Lib.hid (fun W hr => wsum_one W W.heap.size (some ⟨g, 0, none⟩) 4 l.length (· = g) (l.take 4) rfl (by rw [List.length_take]; omega) hr (by rw [List.length_take]; omega) (by rw [List.length_take]; omega))
  have hr0 : ∀ w', Below w.heap.size w w' → Rd w' (· = g) (some ⟨g, 0, none⟩) (l.take 4) := fun w' hb => by
    have := Rd.of_part (a := 0) (n := 4) (hk.below hb hk.lt)
    simpa using this
  have hr4 : ∀ w', Below w.heap.size w w' → Rd w' (· = g) (some ⟨g, 4, none⟩) ((l.drop 4).take 4) := fun w' hb => Rd.of_part (hk.below hb hk.lt)
  have HC8 := Lib.hid c8
  have HR0 := Lib.hid hr0
  have HR4 := Lib.hid hr4
  have hl8 : 8 < l.length := by omega
  obtain ⟨N, hN⟩ : ∃ N, N = num l := ⟨_, rfl⟩
  obtain ⟨M, hM⟩ : ∃ M, M = num (l.drop 4) := ⟨_, rfl⟩
  obtain ⟨T, hT⟩ : ∃ T, T = csum (l.take 4) := ⟨_, rfl⟩
  obtain ⟨x, hx⟩ : ∃ x, x = l.getD 8 0 := ⟨_, rfl⟩
  have hNl : N < 4294967296 := hN ▸ num_lt l
  have q0 := @genOf_mark l
  have q1 := @genOf_great l
  have q2 := @genOf_sum l
  have q3 := @genOf_yes l
  rw [← hN] at q1 q3
  rw [← hM, ← hT] at q2 q3
  rw [← hx] at q0 q3
  rw [← hN] at HG1
  rw [← hM] at HG2
  rw [← hT] at HS
  rw [← hx] at HC8
  generalize genOf l = G at *
  have ways : (x ≠ 1 ∧ G = 0) ∨ (x = 1 ∧ 2147483647 < N ∧ G = 0) ∨ (x = 1 ∧ ¬ 2147483647 < N ∧ M ≠ T ∧ G = 0) ∨ (x = 1 ∧ ¬ 2147483647 < N ∧ M = T ∧ G = N) := by
    by_cases a : x = 1
    · by_cases b : 2147483647 < N
      · exact .inr (.inl ⟨a, b, q1 b⟩)
      · by_cases c : M = T
        · exact .inr (.inr (.inr ⟨a, b, c, q3 a b c⟩))
        · exact .inr (.inr (.inl ⟨a, b, c, q2 c⟩))
    · exact .inl ⟨a, q0 a⟩
  clear q0 q1 q2 q3 hN hM hT hx g1 g2 hr0 hr4 c8 hk hP h1 h2
  generalize l.length = n at *
  rcases ways with ⟨hx, rfl⟩ | ⟨rfl, hx, rfl⟩ | ⟨rfl, hx, hy, rfl⟩ | ⟨rfl, hx, rfl, rfl⟩
  · have e1 : (((x.toNat : Nat) : Int) != 1) = true := u8_ne hx
    clear hx
    go_enter Try.func38, Try.ntmps38
    go_wp2_with fail
    refine (HG1.out w _ (HR0.out w (Below.refl _ _))).mono ?_
    rintro e w1 ⟨rfl, k1, rfl⟩
    have HB1 := Lib.hid (below_drewN (Below.refl w.heap.size w) k1)
    generalize w.drewN k1 = w1 at *
    go_wp2_with fail
    refine (HG2.out w1 _ (HR4.out w1 HB1.out)).mono ?_
    rintro e w2 ⟨rfl, k2, rfl⟩
    have HB2 := Lib.hid (below_drewN HB1.out k2)
    generalize w1.drewN k2 = w2 at *
    have hc8 := HC8.out w2 HB2.out
    go_wp2
    go_ret
    exact ⟨rfl, HB2.out⟩
  · have e1 : (((UInt8.toNat 1 : Nat) : Int)) = 1 := rfl
    rw [e1] at HC8
    have e2 : (2147483647 : Int) < N := by omega
    clear hx
    go_enter Try.func38, Try.ntmps38
    go_wp2_with fail
    refine (HG1.out w _ (HR0.out w (Below.refl _ _))).mono ?_
    rintro e w1 ⟨rfl, k1, rfl⟩
    have HB1 := Lib.hid (below_drewN (Below.refl w.heap.size w) k1)
    generalize w.drewN k1 = w1 at *
    go_wp2_with fail
    refine (HG2.out w1 _ (HR4.out w1 HB1.out)).mono ?_
    rintro e w2 ⟨rfl, k2, rfl⟩
    have HB2 := Lib.hid (below_drewN HB1.out k2)
    generalize w1.drewN k2 = w2 at *
    have hc8 := HC8.out w2 HB2.out
    go_wp2
    go_ret
    exact ⟨rfl, HB2.out⟩
  · have e1 : (((UInt8.toNat 1 : Nat) : Int)) = 1 := rfl
    rw [e1] at HC8
    have e2 : ¬ (2147483647 : Int) < N := by omega
    have e3 := int_ne hy
    clear hx hy
    go_enter Try.func38, Try.ntmps38
    go_wp2_with fail
    refine (HG1.out w _ (HR0.out w (Below.refl _ _))).mono ?_
    rintro e w1 ⟨rfl, k1, rfl⟩
    have HB1 := Lib.hid (below_drewN (Below.refl w.heap.size w) k1)
    generalize w.drewN k1 = w1 at *
    go_wp2_with fail
    refine (HG2.out w1 _ (HR4.out w1 HB1.out)).mono ?_
    rintro e w2 ⟨rfl, k2, rfl⟩
    have HB2 := Lib.hid (below_drewN HB1.out k2)
    generalize w1.drewN k2 = w2 at *
    have hc8 := HC8.out w2 HB2.out
    go_wp2_with (go_at_call 52; go_must (refine (HS.out w2 (HR0.out w2 HB2.out)).mono ?_); rintro e w3 ⟨rfl, hb3⟩)
    go_ret
    exact ⟨rfl, HB2.out.trans (hb3.mono HB2.out.size)⟩
  · have e1 : (((UInt8.toNat 1 : Nat) : Int)) = 1 := rfl
    rw [e1] at HC8
    have e2 : ¬ (2147483647 : Int) < G := by omega
    have e4 : IntKind.i64.wrap (G : Int) = G := by rw [IntKind.wrap_i64]; omega
    clear hx
    go_enter Try.func38, Try.ntmps38
    go_wp2_with fail
    refine (HG1.out w _ (HR0.out w (Below.refl _ _))).mono ?_
    rintro e w1 ⟨rfl, k1, rfl⟩
    have HB1 := Lib.hid (below_drewN (Below.refl w.heap.size w) k1)
    generalize w.drewN k1 = w1 at *
    go_wp2_with fail
    refine (HG2.out w1 _ (HR4.out w1 HB1.out)).mono ?_
    rintro e w2 ⟨rfl, k2, rfl⟩
    have HB2 := Lib.hid (below_drewN HB1.out k2)
    generalize w1.drewN k2 = w2 at *
    have hc8 := HC8.out w2 HB2.out
    go_wp2_with (go_at_call 52; go_must (refine (HS.out w2 (HR0.out w2 HB2.out)).mono ?_); rintro e w3 ⟨rfl, hb3⟩)
    go_ret
    exact ⟨rfl, HB2.out.trans (hb3.mono HB2.out.size)⟩
end Go.Proofs.Ytaoaegkfejlgkaa.Dsk
