/-
  The document's example: with a fuse for one write and two bytes abc is written at 0, and of xyz at 10 just xy; so the anchor of the statements answers true.
-/
import Derived.Test.YtohdiepoeadenaaD4
namespace Go.Proofs.Ytohdiepoeadenaa.Dsk
open Go.RowKit
def a0 : Dk := ⟨List.replicate 1024 0, false, 0, false, 0, 0⟩
def a1 : Dk := { a0 with set := true, fw := 1, fb := 2 }
def a2 : Dk := (a1.write 0 [97, 98, 99]).2
def a3 : Dk := (a2.write 10 [120, 121, 122]).2
def a4 : Dk := { a3 with down := false, set := false, fw := 0, fb := 0 }
theorem a1_ok : a1.ok := ⟨by decide +kernel, by decide +kernel, by decide +kernel, by decide +kernel, by decide +kernel⟩
theorem a2_ok : a2.ok := ⟨by decide +kernel, by decide +kernel, by decide +kernel, by decide +kernel, by decide +kernel⟩
theorem a2_one : (a1.write 0 [97, 98, 99]).1 = 0 := by decide +kernel
theorem a3_one : (a2.write 10 [120, 121, 122]).1 = 20 := by decide +kernel
theorem a3_down : a3.down = true := by decide +kernel
theorem a4_len : a4.l.length = 1024 := by decide +kernel
theorem a4_str : mk ((a4.l.drop 0).take 13) = ⟨#[97, 98, 99, 0, 0, 0, 0, 0, 0, 0, 120, 121, 0]⟩ := by kernel_rfl
set_option maxRecDepth 100000
set_option maxHeartbeats 1000000 in
theorem anchor_any (w : World) : Calls Try.prog 9 #[] w fun e w' => e = .returned (.bool true) ∧ Below w.heap.size w w' := by
  have kc := conv_const
  go_enter Try.func9, Try.ntmps9
  go_wp2_with fail
  refine (new_ok w 1024 (by decide) (by decide)).mono ?_
  rintro e w1 ⟨rfl, h1, hb1, hz1⟩
  have H1 : Hid (Dsk w1 (w.heap.size + 1) w.heap.size a0) := Lib.hid h1
  have HB1 := Lib.hid hb1
  have HZ1 := Lib.hid hz1
  clear h1 hb1 hz1
  obtain ⟨B, hB⟩ : ∃ B, B = w.heap.size := ⟨_, rfl⟩
  have HBe := Lib.hid hB
  rw [← hB] at H1 HB1 HZ1 ⊢
  clear hB
  go_wp2_with fail
  refine (light_ok w1 (B + 1) B a0 H1.out 1 2 (by decide) (by decide)).mono ?_
  rintro e w2 ⟨rfl, h2, hb2, hz2⟩
  have H2 : Hid (Dsk w2 (B + 1) B a1) := Lib.hid h2
  have HB2 : Hid (Below B w w2) := Lib.hid (HB1.out.trans (hb2.below (by rw [HZ1.out]; omega) (by omega) (Nat.le_refl _)))
  have HZ2 := Lib.hid (hz2.trans HZ1.out)
  clear h2 hb2 hz2 H1 HB1 HZ1
  go_wp2_with fail
  generalize hw : w2.alloc _ = v2
  have hR : Rd v2 (· = w2.heap.size) (some ⟨w2.heap.size, 0, none⟩) [97, 98, 99] := by rw [← hw]; exact lit_rd w2 [97, 98, 99] _ rfl _
  have hB : Below w2.heap.size w2 v2 := by rw [← hw]; exact (Below.refl _ _).alloc (Nat.le_refl _) _
  clear hw
  have hz2 := HZ2.out
  refine (write_any v2 (B + 1) B a1 (H2.out.old hB) a1_ok 0 [97, 98, 99] _ 3 _ hR (by omega) (by omega) (by decide) (by decide) (by decide)).mono ?_
  rintro e w3 ⟨rfl, h3, hb3, hz3⟩
  rw [a2_one]
  have H3 : Hid (Dsk w3 (B + 1) B a2) := Lib.hid h3
  have HB3 : Hid (Below B w w3) := Lib.hid ((HB2.out.trans (hB.mono (by omega))).trans (hb3.below (by have := hB.size; omega) (by omega) (Nat.le_refl _)))
  have HZ3 : Hid (B + 2 ≤ w3.heap.size) := Lib.hid (by have := hB.size; omega)
  clear h3 hb3 hz3 hR hB hz2 H2 HB2 HZ2
  go_wp2_with fail
  generalize hw : w3.alloc _ = v3
  have hR : Rd v3 (· = w3.heap.size) (some ⟨w3.heap.size, 0, none⟩) [120, 121, 122] := by rw [← hw]; exact lit_rd w3 [120, 121, 122] _ rfl _
  have hB : Below w3.heap.size w3 v3 := by rw [← hw]; exact (Below.refl _ _).alloc (Nat.le_refl _) _
  clear hw
  have hz3 := HZ3.out
  refine (write_any v3 (B + 1) B a2 (H3.out.old hB) a2_ok 10 [120, 121, 122] _ 3 _ hR (by omega) (by omega) (by decide) (by decide) (by decide)).mono ?_
  rintro e w4 ⟨rfl, h4, hb4, hz4⟩
  rw [a3_one]
  have H4 : Hid (Dsk w4 (B + 1) B a3) := Lib.hid h4
  have HB4 : Hid (Below B w w4) := Lib.hid ((HB3.out.trans (hB.mono (by omega))).trans (hb4.below (by have := hB.size; omega) (by omega) (Nat.le_refl _)))
  have HZ4 : Hid (B + 2 ≤ w4.heap.size) := Lib.hid (by have := hB.size; omega)
  clear h4 hb4 hz4 hR hB hz3 H3 HB3 HZ3 kc
  go_wp2_with fail
  refine (up_any w4 (B + 1) B a3 H4.out).mono ?_
  rintro e w5 ⟨rfl, rfl⟩
  rw [a3_down]
  go_wp2_with fail
  refine (start_any w4 (B + 1) B a3 H4.out).mono ?_
  rintro e w5 ⟨rfl, h5, hb5, hz5⟩
  have H5 : Hid (Dsk w5 (B + 1) B a4) := Lib.hid h5
  have HB5 : Hid (Below B w w5) := Lib.hid (HB4.out.trans (hb5.below (by have := HZ4.out; omega) (by omega) (Nat.le_refl _)))
  have HZ5 : Hid (B + 2 ≤ w5.heap.size) := Lib.hid (by rw [hz5]; exact HZ4.out)
  clear h5 hb5 hz5 H4 HB4 HZ4
  go_wp2_with fail
  refine (read_ok w5 (B + 1) B a4 H5.out 0 13 (by rw [a4_len]; decide) rfl (by rw [a4_len]; decide)).mono ?_
  rintro e w6 ⟨rfl, h6, hb6, hz6⟩
  have hcv := conv_rd 13 13 (Rd.of_blk h6) (by rw [List.length_take, List.length_drop, a4_len]; rfl)
  rw [a4_str] at hcv
  have HB6 : Hid (Below B w w6) := Lib.hid (HB5.out.trans (hb6.mono (by have := HZ5.out; omega)))
  clear h6 hb6 hz6 H5 HB5 HZ5
  generalize w5.heap.size = q at *
  go_wp2
  go_ret
  exact ⟨rfl, by rw [← HBe.out]; exact HB6.out⟩
end Go.Proofs.Ytohdiepoeadenaa.Dsk
