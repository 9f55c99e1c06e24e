/-
  head and record of package wal.
-/
import Derived.Test.YtaoaegkfejlgkaaW2
import Derived.Deep.RegionLaw
namespace Go.Proofs.Ytaoaegkfejlgkaa.Dsk
open Go.RowKit
/-- A head, step by step. -/
theorem head_steps (a b : List UInt8) (m : UInt8) (ha : a.length = 4) (hb : b.length = 4) : (splice (splice (List.replicate 16 0) 0 a) 4 b).set 8 m = a ++ (b ++ m :: List.replicate 7 0) := by
  match a, ha, b, hb with
  | [a0, a1, a2, a3], _, [b0, b1, b2, b3], _ => rfl
theorem rec_steps (a b x : List UInt8) (m : UInt8) (ha : a.length = 4) (hb : b.length = 4) : splice ((splice (splice (List.replicate (9 + x.length) 0) 0 a) 4 b).set 8 m) 9 x = a ++ (b ++ m :: x) := by
  match a, ha, b, hb with
  | [a0, a1, a2, a3], _, [b0, b1, b2, b3], _ =>
    rw [show 9 + x.length = x.length + 1 + 1 + 1 + 1 + 1 + 1 + 1 + 1 + 1 by omega]
    simp only [List.replicate_succ, splice]
    simp
    omega
theorem blk_src {w : World} {q : Nat} {l : List UInt8} (h : Blk w q 5 (bc l)) : ∃ ad, (some ⟨q, 0, none⟩ : Option Addr) = some ad ∧ ∀ j v, (bc l)[j]? = some v → w.cell? (ad.add j) = some v :=
  ⟨_, rfl, fun j v hv => by rw [Addr.add_mid, Nat.zero_add, h.cell]; exact hv⟩
theorem blk_cells {w : World} {q : Nat} {l : List UInt8} (h : Blk w q 5 (bc l)) : ∀ j v, (bc l)[j]? = some v → w.cell? ⟨q, j, none⟩ = some v :=
  fun j v hv => by rw [h.cell]; exact hv
theorem below_put {B g : Nat} {w w' : World} (h : Below B w w') (hg : B ≤ g) (i : Nat) (u : Value) : Below B w (w'.setCell ⟨g, i, none⟩ u) :=
  ⟨h.os, h.tape, h.output, by simpa [World.setCell] using h.size, fun k hk => (Below.heap_setCell _ _ _ _ (by show k ≠ g; omega)).trans (h.block k hk)⟩
theorem copy4_length (n : Nat) (l b : List UInt8) (k : Nat) (h : l.length = n) (hk : k + b.length ≤ n) : (splice l k b).length = n := by rw [splice_length _ _ _ (by omega), h]
set_option maxRecDepth 100000
set_option maxHeartbeats 2000000 in
theorem head_any (w : World) (g : Nat) (m : UInt8) (hg : g < 4294967296) :
    Calls Try.prog 55 #[.int .i64 (g : Int), .int .u8 (m.toNat : Nat)] w (Made w 16 (headB g m)) := by
  have u0 := wrap_u32 hg
  have HG := Lib.hid hg
  have hmk := run_zeros 16 (by omega)
  rw [show ((16 : Nat) : Int) = 16 from rfl] at hmk
  have HZ : Hid ((List.replicate 16 (0 : UInt8)).length = 16) := Lib.hid (by simp)
  have HF := Lib.hid (head_steps (be4 g) (be4 (csum (be4 g))) m rfl rfl)
  obtain ⟨P, hP, hP'⟩ := run_from w.heap.size 16 4 (by omega)
  obtain rfl := hP' (by omega)
  clear hg hP'
  generalize List.replicate 16 (0 : UInt8) = Z at *
  go_enter Try.func55, Try.ntmps55
  go_wp2_with fail
  have HK0 := Lib.hid (Blk.new w 5 _ _ (show (bc Z).toArray = _ from rfl))
  have HB0 := Lib.hid ((Below.refl w.heap.size w).alloc (Nat.le_refl _) (.cells (bc Z).toArray 5))
  have HS0 : Hid ((w.alloc (.cells (bc Z).toArray 5)).heap.size = w.heap.size + 1) := Lib.hid (by simp)
  generalize (w.alloc (.cells (bc Z).toArray 5)) = w0 at *
  refine (put_made g w0 HG.out).mono ?_
  rintro e w1 ⟨q1, rfl, hq1, hk1, hb1, hz1⟩
  have HQ1 : Hid (w.heap.size < q1) := Lib.hid (by have := HS0.out; omega)
  have HK1 := Lib.hid hk1
  have HB1 := Lib.hid (HB0.out.trans (hb1.mono (by have := HS0.out; omega)))
  have HR1 : Hid (Blk w1 w.heap.size 5 (bc Z)) := Lib.hid (HK0.out.below hb1 (by have := HS0.out; omega))
  have HS1 : Hid (w.heap.size + 1 ≤ w1.heap.size) := Lib.hid (by have := HS0.out; omega)
  clear hk1 hb1 hq1 hz1 HK0 HB0 HS0
  generalize hgq : w.heap.size = q at *
  go_wp2_with ((with_reducible refine wpList_copy_but rfl (.tmp 11) (.tmp 12) 33 33 rfl 5 Try.underlying33 size5 _ _ _ _ _ _ rfl rfl q 0 (bc Z) 5 HR1.out (bc (be4 g)) ?hn ?hpos ?hfit (bc_one _) ?_); rotate_right; intro w2 HK2 HB2 HZ2)
  case hn => rw [bc_length]; rfl
  case hpos => exact fun _ => blk_cells HK1.out
  case hfit => rw [bc_length, bc_length, HZ.out, be4_length]; omega
  rw [← bc_splice] at HK2
  have HZ2' : Hid ((splice Z 0 (be4 g)).length = 16) := Lib.hid (copy4_length 16 _ _ _ HZ.out (by rw [be4_length]; omega))
  have HBa : Hid (Below q w w2) := Lib.hid (HB1.out.trans ((HB2.out q).below (by have := HS1.out; omega) (Nat.le_refl _) (Nat.le_refl _)))
  have HKq : Hid (Blk w2 q1 5 (bc (be4 g))) := Lib.hid (HK1.out.but (HB2.out q) (by have := HQ1.out; omega) (by have := HQ1.out; omega))
  have HS2 : Hid (q + 1 ≤ w2.heap.size) := Lib.hid (by rw [HZ2.out]; exact HS1.out)
  clear HK1 HR1 HB1 HB2 HZ2 HS1 HZ
  generalize splice Z 0 (be4 g) = Z2 at *
  have HCS : Hid (csum (be4 g) < 4294967296) := Lib.hid (csum_lt _)
  have HKd : Hid (Rd w2.drew (· = q1) (some ⟨q1, 0, none⟩) (be4 g)) := Lib.hid (Rd.of_blk (show Blk w2.drew q1 _ _ from HKq.out))
  have HSum := Lib.hid (wsum_one w2.drew w2.heap.size (some ⟨q1, 0, none⟩) 4 4 (· = q1) (be4 g) rfl rfl HKd.out (Nat.le_refl 4) (show 4 ≤ 2000000 by omega))
  obtain ⟨T, hT⟩ : ∃ T, T = csum (be4 g) := ⟨_, rfl⟩
  rw [← hT] at HSum HCS HF
  have HT := Lib.hid hT
  clear hT
  go_region_law (first
    | (go_simp; go_at_call 52; change Calls _ _ _ (w2.drew.alloc _) _; (with_reducible refine HSum.out.mono ?_); rintro e w3 ⟨rfl, hb3⟩; have HX3 : Hid (Blk w3 q 5 (bc Z2)) := Lib.hid ((show Blk w2.drew q _ _ from HK2.out).below hb3 (show q < w2.heap.size by have := HS2.out; omega)); have HB3 : Hid (Below q w w3) := Lib.hid (HBa.out.drew.trans (hb3.mono (show q ≤ w2.heap.size by have := HS2.out; omega))); have HS3 : Hid (q + 1 ≤ w3.heap.size) := Lib.hid (Nat.le_trans (show q + 1 ≤ w2.drew.heap.size from HS2.out) hb3.size); clear hb3)
    | (go_simp; go_at_call 42; (with_reducible refine (put_made T w3 HCS.out).mono ?_); rintro e w4 ⟨q4, rfl, hq4, hk4, hb4, hz4⟩; have HK4 := Lib.hid hk4; have HX4 : Hid (Blk w4 q 5 (bc Z2)) := Lib.hid (HX3.out.below hb4 (by have := HS3.out; omega)); have HB4 : Hid (Below q w w4) := Lib.hid (HB3.out.trans (hb4.mono (by have := HS3.out; omega))); have HS4 : Hid (q + 1 ≤ w4.heap.size) := Lib.hid (by have := HS3.out; omega); clear hq4 hk4 hb4 hz4)
    | (refine step_copy_but rfl (.tmp 15) (.tmp 19) 33 33 rfl 5 Try.underlying33 size5 (some ⟨q, 4, none⟩) (some ⟨q4, 0, none⟩) 12 12 4 4 (by rfl) (by rfl) q 4 (bc Z2) 5 HX4.out (bc (be4 T)) (by rw [bc_length]; rfl) (fun _ => ⟨rfl, blk_src HK4.out⟩) (by rw [bc_length, bc_length, HZ2'.out, be4_length]; omega) (bc_one _) ?_; intro w5 HK5 HB5 HZ5))
  rw [← bc_splice] at HK5
  have HZ5' : Hid ((splice Z2 4 (be4 T)).length = 16) := Lib.hid (copy4_length 16 _ _ _ HZ2'.out (by rw [be4_length]; omega))
  have HB5' : Hid (Below q w w5) := Lib.hid (HB4.out.trans ((HB5.out q).below (by have := HS4.out; omega) (Nat.le_refl _) (Nat.le_refl _)))
  have HS5 : Hid (q + 1 ≤ w5.heap.size) := Lib.hid (by rw [HZ5.out]; exact HS4.out)
  clear HSum HCS HKd HX3 HB3 HS3 HK4 HX4 HB4 HS4 HB5 HZ5 hP hmk HKq HBa HS2 HZ2' HK2
  generalize splice Z2 4 (be4 T) = Z5 at *
  have hc8 : w5.cell? ⟨q, 8, none⟩ = some (.int .u8 ((Z5.getD 8 0).toNat : Nat)) := by rw [HK5.out.cell]; exact bc_get _ _ (by rw [HZ5'.out]; omega)
  have hf8 := HK5.out.frozen 8
  go_wp2
  go_ret
  have hfin := HK5.out.put 8 (.int .u8 (m.toNat : Int))
  rw [bc_set, HF.out, HT.out] at hfin
  subst hgq
  exact ⟨_, rfl, Nat.le_refl _, hfin, below_put HB5'.out (Nat.le_refl _) _ _, by have := HS5.out; simp [World.setCell]; omega⟩
/-- A part of a row of one's own, from a place on. -/
theorem below_but {q : Nat} {w w' w2 : World} (h : Below q w w') (hb : ∀ D, But D q w' w2) (hq : q ≤ w'.heap.size) : Below q w w2 := h.trans ((hb q).below hq (Nat.le_refl _) (Nat.le_refl _))
set_option maxHeartbeats 2000000 in
theorem record_any (w : World) (g p : Nat) (S : Nat → Prop) (A : Option Addr) (c : Nat) (x : List UInt8) (m : UInt8) (hR : Rd w S A x) (hxc : x.length ≤ c) (hg : g < 4294967296) (hp : p < 4294967296) (h1 : 1 ≤ x.length) (h2 : x.length ≤ 65536) :
    Calls Try.prog 32 #[.int .i64 (g : Int), .int .i64 (p : Int), .slice A x.length c, .int .u8 (m.toNat : Nat)] w (Made w (9 + x.length) (recB g p x m)) := by
  have u2 := wrap_u32 (n := x.length) (by omega)
  have HR0 : Hid (Rd w (fun k => S k ∧ k < w.heap.size) A x) := Lib.hid (fun hl => by
    obtain ⟨ad, e, a1, a2, a3⟩ := hR hl
    exact ⟨ad, e, ⟨a1, a2⟩, a2, a3⟩)
  have HG := Lib.hid hg
  have HP := Lib.hid hp
  have HX := Lib.hid hxc
  have H1 := Lib.hid h1
  have H2 := Lib.hid h2
  obtain ⟨n, hn⟩ : ∃ n, n = x.length := ⟨_, rfl⟩
  have HN := Lib.hid hn
  obtain ⟨t, ht⟩ : ∃ t, t = 9 + x.length := ⟨_, rfl⟩
  have HCost := Lib.hid (cost_ok w x.length h1 h2)
  have HF := Lib.hid (rec_steps (be4 x.length) (be4 (rsum g p x)) x m rfl rfl)
  rw [← ht] at HCost HF
  have hmk := run_zeros t (by omega)
  have HZ : Hid ((List.replicate t (0 : UInt8)).length = t) := Lib.hid (by simp)
  obtain ⟨P4, hP4, hP4'⟩ := run_from w.heap.size t 4 (by omega)
  obtain rfl := hP4' (by omega)
  obtain ⟨P9, hP9, hP9'⟩ := run_from w.heap.size t 9 (by omega)
  obtain rfl := hP9' (by omega)
  have HRs := Lib.hid (fun W hr => rsum_any W g p (fun k => S k ∧ k < w.heap.size) A c x hr hxc hg hp (by omega))
  rw [← hn] at u2 HCost HF HRs ⊢
  have HT0 : Hid (rsum g p x < 4294967296) := Lib.hid (csum_lt _)
  obtain ⟨T, hT⟩ : ∃ T, T = rsum g p x := ⟨_, rfl⟩
  rw [← hT] at HF HRs HT0
  have HT := Lib.hid hT
  have HTn := Lib.hid (show t = 9 + n by rw [hn]; exact ht)
  have hnt : 9 + n = t := HTn.out.symm
  rw [hnt]
  have h8t : 8 < t := by omega
  have h4t : (4 : Int) ≤ (t : Int) := by omega
  have h4n : ¬ t = 4 := by omega
  have h9t : (9 : Int) ≤ (t : Int) := by omega
  have h9n : ¬ t = 9 := by omega
  clear hg hp hP4' hP9' hR hxc h1 h2 hn hT ht hnt
  generalize List.replicate t (0 : UInt8) = Z at *
  go_enter Try.func32, Try.ntmps32
  go_wp2_with (go_at_call 23; (with_reducible refine HCost.out.mono ?_); rintro e w' ⟨rfl, rfl⟩)
  have HK0 := Lib.hid (Blk.new w 5 _ _ (show (bc Z).toArray = _ from rfl))
  have HB0 := Lib.hid ((Below.refl w.heap.size w).alloc (Nat.le_refl _) (.cells (bc Z).toArray 5))
  have HS0 : Hid ((w.alloc (.cells (bc Z).toArray 5)).heap.size = w.heap.size + 1) := Lib.hid (by simp)
  generalize (w.alloc (.cells (bc Z).toArray 5)) = w0 at *
  refine (put_made n w0 (by have := HN.out; have := H2.out; omega)).mono ?_
  rintro e w1 ⟨q1, rfl, hq1, hk1, hb1, hz1⟩
  have HQ1 : Hid (w.heap.size < q1) := Lib.hid (by have := HS0.out; omega)
  have HK1 := Lib.hid hk1
  have HB1 := Lib.hid (HB0.out.trans (hb1.mono (by have := HS0.out; omega)))
  have HR1 : Hid (Blk w1 w.heap.size 5 (bc Z)) := Lib.hid (HK0.out.below hb1 (by have := HS0.out; omega))
  have HS1 : Hid (w.heap.size + 1 ≤ w1.heap.size) := Lib.hid (by have := HS0.out; omega)
  clear hk1 hb1 hq1 hz1 HK0 HB0 HS0 HCost
  have HRs2 := Lib.hid (fun W (hb : Below w.heap.size w W) => HRs.out W (HR0.out.below hb (fun k h => h.2)))
  have HRx := Lib.hid (fun W (hb : Below w.heap.size w W) => HR0.out.below hb (fun k h => h.2))
  clear HRs HR0
  generalize hgq : w.heap.size = q at *
  go_wp2_with ((with_reducible refine wpList_copy_but rfl (.tmp 14) (.tmp 18) 33 33 rfl 5 Try.underlying33 size5 _ _ _ _ _ _ rfl rfl q 0 (bc Z) 5 HR1.out (bc (be4 n)) ?hn ?hpos ?hfit (bc_one _) ?_); rotate_right; intro w2 HK2 HB2 HZ2)
  case hn => rw [bc_length, be4_length]; show _ = min _ _; omega
  case hpos => exact fun _ => blk_cells HK1.out
  case hfit => rw [bc_length, bc_length, HZ.out, be4_length]; omega
  rw [← bc_splice] at HK2
  have HZ2' : Hid ((splice Z 0 (be4 n)).length = t) := Lib.hid (copy4_length t _ _ _ HZ.out (by rw [be4_length]; omega))
  have HBa : Hid (Below q w w2) := Lib.hid (below_but HB1.out HB2.out (by have := HS1.out; omega))
  have HS2 : Hid (q + 1 ≤ w2.heap.size) := Lib.hid (by rw [HZ2.out]; exact HS1.out)
  clear HK1 HR1 HB1 HB2 HZ2 HS1 HZ
  generalize splice Z 0 (be4 n) = Z2 at *
  go_region_law (first
    | (go_simp; go_at_call 43; (with_reducible refine (HRs2.out w2.drew HBa.out.drew).mono ?_); rintro e w3 ⟨rfl, hb3⟩; have HX3 : Hid (Blk w3 q 5 (bc Z2)) := Lib.hid ((show Blk w2.drew q _ _ from HK2.out).below hb3 (show q < w2.heap.size by have := HS2.out; omega)); have HB3 : Hid (Below q w w3) := Lib.hid (HBa.out.drew.trans (hb3.mono (show q ≤ w2.heap.size by have := HS2.out; omega))); have HS3 : Hid (q + 1 ≤ w3.heap.size) := Lib.hid (Nat.le_trans (show q + 1 ≤ w2.drew.heap.size from HS2.out) hb3.size); clear hb3)
    | (go_simp; go_at_call 42; (with_reducible refine (put_made T w3 HT0.out).mono ?_); rintro e w4 ⟨q4, rfl, hq4, hk4, hb4, hz4⟩; have HK4 := Lib.hid hk4; have HX4 : Hid (Blk w4 q 5 (bc Z2)) := Lib.hid (HX3.out.below hb4 (by have := HS3.out; omega)); have HB4 : Hid (Below q w w4) := Lib.hid (HB3.out.trans (hb4.mono (by have := HS3.out; omega))); have HS4 : Hid (q + 1 ≤ w4.heap.size) := Lib.hid (by have := HS3.out; omega); clear hq4 hk4 hb4 hz4)
    | (refine step_copy_but rfl (.tmp 21) (.tmp 26) 33 33 rfl 5 Try.underlying33 size5 (some ⟨q, 4, none⟩) (some ⟨q4, 0, none⟩) (t - 4) (t - 4) 4 4 (by rfl) (by rfl) q 4 (bc Z2) 5 HX4.out (bc (be4 T)) (by rw [bc_length, be4_length]; show _ = min _ _; omega) (fun _ => ⟨rfl, blk_src HK4.out⟩) (by rw [bc_length, bc_length, HZ2'.out, be4_length]; omega) (bc_one _) ?_; intro w5 HK5 HB5 HZ5))
  rw [← bc_splice] at HK5
  have HZ5' : Hid ((splice Z2 4 (be4 T)).length = t) := Lib.hid (copy4_length t _ _ _ HZ2'.out (by rw [be4_length]; omega))
  have HB5' : Hid (Below q w w5) := Lib.hid (below_but HB4.out HB5.out (by have := HS4.out; omega))
  have HS5 : Hid (q + 1 ≤ w5.heap.size) := Lib.hid (by rw [HZ5.out]; exact HS4.out)
  clear HX3 HB3 HS3 HK4 HX4 HB4 HS4 HB5 HZ5 hP4 hmk HBa HS2 HZ2' HK2 HRs2
  generalize splice Z2 4 (be4 T) = Z5 at *
  have hc8 : w5.cell? ⟨q, 8, none⟩ = some (.int .u8 ((Z5.getD 8 0).toNat : Nat)) := by rw [HK5.out.cell]; exact bc_get _ _ (by rw [HZ5'.out]; omega)
  have hf8 := HK5.out.frozen 8
  have HK6 := Lib.hid (HK5.out.put 8 (.int .u8 (m.toNat : Int)))
  rw [bc_set] at HK6
  have HB6 := Lib.hid (below_put HB5'.out (Nat.le_refl _) 8 (.int .u8 (m.toNat : Int)))
  have HX6 := Lib.hid (HRx.out _ HB6.out)
  have HZ6 : Hid ((Z5.set 8 m).length = t) := Lib.hid (by rw [List.length_set]; exact HZ5'.out)
  have HS6 : Hid (q + 1 ≤ (w5.setCell ⟨q, 8, none⟩ (.int .u8 (m.toNat : Int))).heap.size) := Lib.hid (by have := HS5.out; simpa [World.setCell] using this)
  go_wp2_with ((with_reducible refine wpList_copy_but rfl (.tmp 32) (.tmp 33) 33 33 rfl 5 Try.underlying33 size5 _ _ _ _ _ _ rfl rfl q 9 (bc (Z5.set 8 m)) 5 HK6.out (bc x) ?hn ?hpos ?hfit (bc_one _) ?_); rotate_right; intro w7 HK7 HB7 HZ7)
  case hn => rw [bc_length]; show _ = min _ _; have := HN.out; have := HTn.out; omega
  case hpos => intro h0; exact HX6.out.all h0
  case hfit => rw [bc_length, bc_length, HZ6.out]; have := HN.out; have := HTn.out; omega
  rw [← bc_splice, HF.out] at HK7
  have HB7' := Lib.hid (below_but HB6.out HB7.out (by have := HS6.out; omega))
  go_ret
  subst hgq
  have hr : recB g p x m = be4 n ++ (be4 T ++ m :: x) := by unfold recB; rw [HT.out, HN.out]
  rw [hr]
  exact ⟨_, rfl, Nat.le_refl _, HK7.out, HB7'.out, HB7'.out.size⟩
end Go.Proofs.Ytaoaegkfejlgkaa.Dsk
