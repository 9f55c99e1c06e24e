/-
  The document's number, four and generation of layer 8: numbers in four bytes, and the generation of a half, as they are read in mathematics.
-/
import Derived.Test.YtaoaegkfejlgkaaW14
import Derived.Deep.QuietTactic
import Derived.BigQuiet
namespace Go.Proofs.Ytaoaegkfejlgkaa.Dsk
open Go.RowKit
theorem num_of (l : List UInt8) : num l = (((l.getD 0 0).toNat * 256 + (l.getD 1 0).toNat) * 256 + (l.getD 2 0).toNat) * 256 + (l.getD 3 0).toNat := by
  unfold num num4
  rw [ns_getD, ns_getD, ns_getD, ns_getD]
  omega
theorem getD_drop (l : List UInt8) (a i : Nat) : (l.drop a).getD i 0 = l.getD (a + i) 0 := by
  simp [List.getD_eq_getElem?_getD, List.getElem?_drop]
theorem num_nums (x0 x1 x2 x3 : Nat) (h0 : x0 < 256) (h1 : x1 < 256) (h2 : x2 < 256) (h3 : x3 < 256) : ∃ y0 y1 y2 z0 z1 z2 : Nat,
    IntKind.i64.wrap (x0 : Int) = (x0 : Int) ∧ IntKind.i64.wrap (x1 : Int) = (x1 : Int) ∧ IntKind.i64.wrap (x2 : Int) = (x2 : Int) ∧ IntKind.i64.wrap (x3 : Int) = (x3 : Int) ∧
    IntKind.i64.wrap ((x0 : Int) * 256) = (y0 : Int) ∧ IntKind.i64.wrap ((y0 : Int) + x1) = (z0 : Int) ∧ IntKind.i64.wrap ((z0 : Int) * 256) = (y1 : Int) ∧ IntKind.i64.wrap ((y1 : Int) + x2) = (z1 : Int) ∧ IntKind.i64.wrap ((z1 : Int) * 256) = (y2 : Int) ∧ IntKind.i64.wrap ((y2 : Int) + x3) = (z2 : Int) ∧ z2 = ((x0 * 256 + x1) * 256 + x2) * 256 + x3 := by
  refine ⟨x0 * 256, (x0 * 256 + x1) * 256, ((x0 * 256 + x1) * 256 + x2) * 256, x0 * 256 + x1, (x0 * 256 + x1) * 256 + x2, ((x0 * 256 + x1) * 256 + x2) * 256 + x3, ?_, ?_, ?_, ?_, ?_, ?_, ?_, ?_, ?_, ?_, rfl⟩ <;> rw [IntKind.wrap_i64] <;> omega
set_option maxRecDepth 100000
set_option maxHeartbeats 2000000 in
theorem number_any (w : World) (q : Nat) (L : List UInt8) (hk : Blk w q 5 (bc L)) (a : Nat) (ha : a + 4 ≤ L.length) (hl : L.length ≤ 2000000) :
    Calls Try.prog 47 #[.slice (some ⟨q, 0, none⟩) L.length L.length, .int .i64 (a : Int)] w fun e w' => e = .returned (.int .i64 (num (L.drop a) : Nat)) ∧ ∃ k, w' = w.drewN k := by
  have c : ∀ i, i < 4 → w.cell? ⟨q, a + i, none⟩ = some (.int .u8 ((L.getD (a + i) 0).toNat : Nat)) := fun i hi => by rw [hk.cell]; exact bc_get _ _ (by omega)
  have c0 := c 0 (by omega)
  rw [Nat.add_zero] at c0
  have c1 := c 1 (by omega)
  have c2 := c 2 (by omega)
  have c3 := c 3 (by omega)
  have HN : Hid (num (L.drop a) = (((L.getD a 0).toNat * 256 + (L.getD (a + 1) 0).toNat) * 256 + (L.getD (a + 2) 0).toNat) * 256 + (L.getD (a + 3) 0).toNat) := Lib.hid (by rw [num_of, getD_drop, getD_drop, getD_drop, getD_drop, Nat.add_zero])
  obtain ⟨y0, y1, y2, z0, z1, z2, v0, v1, v2, v3, m0, s0, m1, s1, m2, s2, hz⟩ := num_nums _ _ _ _ (L.getD a 0).toNat_lt (L.getD (a + 1) 0).toNat_lt (L.getD (a + 2) 0).toNat_lt (L.getD (a + 3) 0).toNat_lt
  rw [← hz] at HN
  generalize (L.getD a 0).toNat = x0 at *
  generalize (L.getD (a + 1) 0).toNat = x1 at *
  generalize (L.getD (a + 2) 0).toNat = x2 at *
  generalize (L.getD (a + 3) 0).toNat = x3 at *
  generalize num (L.drop a) = N at *
  generalize L.length = n at *
  have i0 : (a : Int) < n := by omega
  have i0' : a < n := by omega
  have i1 : (a : Int) + 1 < n := by omega
  have i2 : (a : Int) + 2 < n := by omega
  have i3 : (a : Int) + 3 < n := by omega
  have i1' : a + 1 < n := by omega
  have i2' : a + 2 < n := by omega
  have i3' : a + 3 < n := by omega
  have j1 : (0 : Int) ≤ (a : Int) + 1 := by omega
  have j2 : (0 : Int) ≤ (a : Int) + 2 := by omega
  have j3 : (0 : Int) ≤ (a : Int) + 3 := by omega
  have k1 : ((a : Int) + 1).toNat = a + 1 := by omega
  have k2 : ((a : Int) + 2).toNat = a + 2 := by omega
  have k3 : ((a : Int) + 3).toNat = a + 3 := by omega
  have u1 : IntKind.i64.wrap ((a : Int) + 1) = (a : Int) + 1 := by rw [IntKind.wrap_i64]; omega
  have u2 : IntKind.i64.wrap ((a : Int) + 2) = (a : Int) + 2 := by rw [IntKind.wrap_i64]; omega
  have u3 : IntKind.i64.wrap ((a : Int) + 3) = (a : Int) + 3 := by rw [IntKind.wrap_i64]; omega
  clear c hk ha hl hz
  go_enter Try.func47, Try.ntmps47
  go_wp2
  go_quiet (fail)
  go_wp2
  go_ret
  rw [HN.out]
  exact ⟨rfl, _, rfl⟩
theorem four_any (n : Nat) (w : World) (hn : n < 4294967296) : Calls Try.prog 48 #[.int .i64 (n : Int)] w (Made w 4 (be4 n)) := by
  have HM : Hid (∀ w' : World, w' = w.alloc (.cells (bc (be4 n)).toArray 5) → Made w 4 (be4 n) (.returned (.slice (some ⟨w.heap.size, 0, none⟩) 4 4)) w') := Lib.hid (fun w' e => by
    subst e
    exact ⟨_, rfl, Nat.le_refl _, Blk.new w _ _ _ rfl, (Below.refl _ _).alloc (Nat.le_refl _) _, by simp⟩)
  have HC : Hid ((bc (be4 n)).toArray = #[.int .u8 ((n / 16777216 : Nat) : Int), .int .u8 ((n / 65536 % 256 : Nat) : Int), .int .u8 ((n / 256 % 256 : Nat) : Int), .int .u8 ((n % 256 : Nat) : Int)]) := Lib.hid (by
    rw [← Vs_be4 hn]; rfl)
  go_enter Try.func48, Try.ntmps48
  go_wp2
  go_ret
  refine HM.out _ ?_
  rw [HC.out]
  simp
theorem rsum03 (w : World) (S : Nat → Prop) (A : Option Addr) (n c : Nat) (l : List UInt8) (hn : l.length = n) (hR : Rd w S A l) (hm : l.length ≤ 2000000) :
    Calls Try.prog 49 #[.slice A n c] w fun e w' => e = .returned (.int .i64 (csum l : Nat)) ∧ w = w' := by
  have := ref_any w w.heap.size A c (ns l) hR.rdb (ns_Bs l) (by rw [ns_length]; omega)
  rw [ns_length, hn] at this
  exact this
set_option maxRecDepth 100000
set_option maxHeartbeats 2000000 in
theorem rgen_last (w : World) (q a n N M T : Nat) (F : List UInt8) (bb : Bool)
    (HN1 : Hid (∀ W, Below w.heap.size w W → Calls Try.prog 47 #[.slice (some ⟨q, 0, none⟩) n n, .int .i64 (a : Int)] W fun e w' => e = .returned (.int .i64 (N : Int)) ∧ ∃ k, w' = W.drewN k))
    (HN2 : Hid (∀ W, Below w.heap.size w W → Calls Try.prog 47 #[.slice (some ⟨q, 0, none⟩) n n, .int .i64 ((a : Int) + 4)] W fun e w' => e = .returned (.int .i64 (M : Int)) ∧ ∃ k, w' = W.drewN k))
    (HC8 : Hid (∀ W, Below w.heap.size w W → W.cell? ⟨q, a + 8, none⟩ = some (.int .u8 1)))
    (HF : Hid (∀ W, Calls Try.prog 48 #[.int .i64 (N : Int)] W (Made W 4 F)))
    (HS : Hid (∀ W S A c, Rd W S A F → Calls Try.prog 49 #[.slice A 4 c] W fun e w' => e = .returned (.int .i64 (T : Int)) ∧ W = w'))
    (u4 : IntKind.i64.wrap ((a : Int) + 4) = (a : Int) + 4) (u8 : IntKind.i64.wrap ((a : Int) + 8) = (a : Int) + 8) (i8' : (a : Int) + 8 < n) (j8 : (0 : Int) ≤ (a : Int) + 8) (k8 : ((a : Int) + 8).toNat = a + 8)
    (e2 : ¬ (2147483647 : Int) < N) (HE3 : Hid (((M : Int) != (T : Int)) = bb)) :
    Calls Try.prog 46 #[.slice (some ⟨q, 0, none⟩) n n, .int .i64 (a : Int)] w fun e w' => e = .returned (.int .i64 (if bb then 0 else (N : Int))) ∧ Below w.heap.size w w' := by
  go_enter Try.func46, Try.ntmps46
  go_wp2_with fail
  refine (HN1.out w (Below.refl _ _)).mono ?_
  rintro e w1 ⟨rfl, k1, rfl⟩
  have HB1 := Lib.hid (below_drewN (Below.refl w.heap.size w) k1)
  generalize w.drewN k1 = w1 at *
  have hc8 := HC8.out w1 HB1.out
  go_wp2_with (go_at_call 47; go_must (with_reducible refine (HN2.out w1 HB1.out).mono ?_); rintro e w2 ⟨rfl, k2, rfl⟩)
  have HB2 := Lib.hid (below_drewN HB1.out k2)
  generalize w1.drewN k2 = w2 at *
  refine (HF.out w2).mono ?_
  rintro e w3 ⟨p, rfl, hp, hkp, hb3, hz3⟩
  have HB3 := Lib.hid (HB2.out.trans (hb3.mono HB2.out.size))
  have HKp := Lib.hid hkp
  clear hp hkp hb3 hz3
  go_wp2_with fail
  refine (HS.out w3 _ _ 4 (Rd.of_blk HKp.out)).mono ?_
  rintro e w4 ⟨rfl, rfl⟩
  have e3 := HE3.out
  cases bb
  · go_wp2
    go_ret
    exact ⟨rfl, HB3.out⟩
  · go_wp2
    go_ret
    exact ⟨rfl, HB3.out⟩
set_option maxRecDepth 100000
set_option maxHeartbeats 2000000 in
theorem rgen_any (w : World) (q : Nat) (L : List UInt8) (hk : Blk w q 5 (bc L)) (a : Nat) (ha : a + 16 ≤ L.length) (hl : L.length ≤ 2000000) :
    Calls Try.prog 46 #[.slice (some ⟨q, 0, none⟩) L.length L.length, .int .i64 (a : Int)] w fun e w' => e = .returned (.int .i64 (genOf (L.drop a) : Nat)) ∧ Below w.heap.size w w' := by
  have HK := Lib.hid (fun W (hb : Below w.heap.size w W) => hk.below hb hk.lt)
  have HN1 := Lib.hid (fun W (hb : Below w.heap.size w W) => number_any W q L (HK.out W hb) a (by omega) hl)
  have HN2 := Lib.hid (fun W (hb : Below w.heap.size w W) => number_any W q L (HK.out W hb) (a + 4) (by omega) hl)
  have HC8 := Lib.hid (fun W (hb : Below w.heap.size w W) => (show W.cell? ⟨q, a + 8, none⟩ = some (.int .u8 (((L.drop a).getD 8 0).toNat : Nat)) by rw [(HK.out W hb).cell, getD_drop]; exact bc_get _ _ (by omega)))
  have h4 : be4 (num (L.drop a)) = (L.drop a).take 4 := by
    rw [← num_take]
    exact be4_num (by rw [List.length_take, List.length_drop]; omega)
  have HF := Lib.hid (fun W => four_any (num (L.drop a)) W (num_lt _))
  rw [h4] at HF
  have HS := Lib.hid (fun W S A c (hR : Rd W S A ((L.drop a).take 4)) => rsum03 W S A 4 c _ (by rw [List.length_take, List.length_drop]; omega) hR (by rw [List.length_take]; omega))
  have q0 := @genOf_mark (L.drop a)
  have q1 := @genOf_great (L.drop a)
  have q2 := @genOf_sum (L.drop a)
  have q3 := @genOf_yes (L.drop a)
  rw [List.drop_drop] at q2 q3
  generalize genOf (L.drop a) = G at *
  generalize (L.drop a).getD 8 0 = x at *
  have hNl := num_lt (L.drop a)
  generalize num (L.drop a) = N at *
  generalize num (L.drop (a + 4)) = M at *
  generalize (L.drop a).take 4 = F at *
  generalize csum F = T at *
  have ways : (x ≠ 1 ∧ G = 0) ∨ (x = 1 ∧ 2147483647 < N ∧ G = 0) ∨ (x = 1 ∧ ¬ 2147483647 < N ∧ M ≠ T ∧ G = 0) ∨ (x = 1 ∧ ¬ 2147483647 < N ∧ M = T ∧ G = N) := by
    by_cases a : x = 1
    · by_cases b : 2147483647 < N
      · exact .inr (.inl ⟨a, b, q1 b⟩)
      · by_cases c : M = T
        · exact .inr (.inr (.inr ⟨a, b, c, q3 a b c⟩))
        · exact .inr (.inr (.inl ⟨a, b, c, q2 c⟩))
    · exact .inl ⟨a, q0 a⟩
  have e4 : (((a + 4 : Nat)) : Int) = (a : Int) + 4 := by omega
  rw [e4] at HN2
  have u4 : IntKind.i64.wrap ((a : Int) + 4) = (a : Int) + 4 := by rw [IntKind.wrap_i64]; omega
  have u8 : IntKind.i64.wrap ((a : Int) + 8) = (a : Int) + 8 := by rw [IntKind.wrap_i64]; omega
  have i8 : a + 8 < L.length := by omega
  have i8' : (a : Int) + 8 < L.length := by omega
  have j8 : (0 : Int) ≤ (a : Int) + 8 := by omega
  have k8 : ((a : Int) + 8).toNat = a + 8 := by omega
  clear q0 q1 q2 q3 hk h4 ha hl hNl
  generalize L.length = n at *
  rcases ways with ⟨hx, rfl⟩ | ⟨rfl, hx, rfl⟩ | ⟨rfl, hx, hy, hG⟩ | ⟨rfl, hx, rfl, rfl⟩
  · have e1 : (((x.toNat : Nat) : Int) != 1) = true := u8_ne hx
    clear hx
    go_enter Try.func46, Try.ntmps46
    go_wp2_with fail
    refine (HN1.out w (Below.refl _ _)).mono ?_
    rintro e w1 ⟨rfl, k1, rfl⟩
    have HB1 := Lib.hid (below_drewN (Below.refl w.heap.size w) k1)
    generalize w.drewN k1 = w1 at *
    have hc8 := HC8.out w1 HB1.out
    go_wp2
    go_ret
    exact ⟨rfl, HB1.out⟩
  · have e1 : (((UInt8.toNat 1 : Nat) : Int)) = 1 := rfl
    rw [e1] at HC8
    have e2 : (2147483647 : Int) < N := by omega
    clear hx
    go_enter Try.func46, Try.ntmps46
    go_wp2_with fail
    refine (HN1.out w (Below.refl _ _)).mono ?_
    rintro e w1 ⟨rfl, k1, rfl⟩
    have HB1 := Lib.hid (below_drewN (Below.refl w.heap.size w) k1)
    generalize w.drewN k1 = w1 at *
    have hc8 := HC8.out w1 HB1.out
    go_wp2
    go_ret
    exact ⟨rfl, HB1.out⟩
  · have e1 : (((UInt8.toNat 1 : Nat) : Int)) = 1 := rfl
    rw [e1] at HC8
    refine (rgen_last w q a n N M T F true HN1 HN2 HC8 HF HS u4 u8 i8' j8 k8 (by omega) (Lib.hid (int_ne hy))).mono ?_
    rintro e w' ⟨rfl, hb⟩
    rw [hG]
    exact ⟨rfl, hb⟩
  · have e1 : (((UInt8.toNat 1 : Nat) : Int)) = 1 := rfl
    rw [e1] at HC8
    refine (rgen_last w q a n _ _ _ F false HN1 HN2 HC8 HF HS u4 u8 i8' j8 k8 (by omega) (Lib.hid (by simp))).mono ?_
    rintro e w' ⟨rfl, hb⟩
    exact ⟨rfl, hb⟩
end Go.Proofs.Ytaoaegkfejlgkaa.Dsk
