/-
  The walk of the statement DiskRanges: whatever the numbers it returns true, and nothing that was there before has changed.
-/
import Derived.Test.YtohdiepoeadenaaDA
namespace Go.Proofs.Ytohdiepoeadenaa.Dsk
open Go.RowKit
def r0 : Dk := ⟨List.replicate 2048 0, false, 0, false, 0, 0⟩
theorem r0_ok : r0.ok := ⟨by decide +kernel, by decide +kernel, by decide +kernel, by decide +kernel, by decide +kernel⟩
theorem r0_len : r0.l.length = 2048 := by decide +kernel
set_option maxRecDepth 100000
set_option maxHeartbeats 1000000 in
theorem ranges_bad (w : World) (a n : Int) (ha : -9223372036854775808 ≤ a) (ha' : a ≤ 9223372036854775807) (h : a < 0 ∨ n < 0 ∨ 2048 - a < n) :
    Calls Try.prog 7 #[.int .i64 a, .int .i64 n] w fun e w' => e = .returned (.bool true) ∧ Below w.heap.size w w' := by
  have hx : a < 0 ∨ (0 ≤ a ∧ n < 0) ∨ (0 ≤ a ∧ 0 ≤ n ∧ 2048 < a) ∨ (0 ≤ a ∧ 0 ≤ n ∧ a ≤ 2048 ∧ 2048 - a < n) := by omega
  have he : r0.err a n = 12 := Dk.err_bad rfl (by rw [r0_len]; omega)
  have HE := Lib.hid he
  clear h he
  rcases hx with h1 | ⟨h1, h2⟩ | ⟨h1, h2, h3⟩ | ⟨h1, h2, h3, h4⟩
  all_goals
    go_enter Try.func7, Try.ntmps7
    go_wp2_with fail
    refine (anchor_any w).mono ?_
    rintro e w1 ⟨rfl, hb1⟩
    have HB1 := Lib.hid hb1
    clear hb1
    go_wp2_with fail
    refine (new_ok w1 2048 (by decide) (by decide)).mono ?_
    rintro e w2 ⟨rfl, h5, hb2, hz2⟩
    have H2 : Hid (Dsk w2 (w1.heap.size + 1) w1.heap.size r0) := Lib.hid h5
    have HB2 := Lib.hid (HB1.out.trans (hb2.mono HB1.out.size))
    clear h5 hb2 hz2
    generalize w1.heap.size = q at *
    go_wp2_with fail
    refine (read_bad w2 (q + 1) q r0 H2.out a n ha ha' r0_ok.len (by rw [HE.out]; decide)).mono ?_
    rw [HE.out]
    rintro e w3 ⟨rfl, rfl⟩
    go_wp2
    go_ret
    exact ⟨rfl, HB2.out⟩
set_option maxHeartbeats 1000000 in
theorem ranges_ok (w : World) (a n : Nat) (h : a + n ≤ 2048) :
    Calls Try.prog 7 #[.int .i64 (a : Int), .int .i64 (n : Int)] w fun e w' => e = .returned (.bool true) ∧ Below w.heap.size w w' := by
  have he : r0.err a n = 0 := Dk.err_ok rfl (by rw [r0_len]; omega)
  have HE := Lib.hid he
  have HL := Lib.hid h
  have h1 : ¬ (a : Int) < 0 := by omega
  have h2 : ¬ (n : Int) < 0 := by omega
  have h3 : ¬ (2048 : Int) < a := by omega
  have h4 : ¬ (2048 : Int) - a < n := by omega
  clear h he
  go_enter Try.func7, Try.ntmps7
  go_wp2_with fail
  refine (anchor_any w).mono ?_
  rintro e w1 ⟨rfl, hb1⟩
  have HB1 := Lib.hid hb1
  clear hb1
  go_wp2_with fail
  refine (new_ok w1 2048 (by decide) (by decide)).mono ?_
  rintro e w2 ⟨rfl, h5, hb2, hz2⟩
  have H2 : Hid (Dsk w2 (w1.heap.size + 1) w1.heap.size r0) := Lib.hid h5
  have HB2 := Lib.hid (HB1.out.trans (hb2.mono HB1.out.size))
  have HQ := Lib.hid HB1.out.size
  have HZ2 := Lib.hid hz2
  clear h5 hb2 hz2
  generalize w1.heap.size = q at *
  go_wp2_with fail
  refine (read_ok w2 (q + 1) q r0 H2.out a n r0_ok.len rfl (by rw [r0_len]; exact HL.out)).mono ?_
  rintro e w3 ⟨rfl, h5, hb3, hz3⟩
  have HK := Lib.hid h5
  have H3 := Lib.hid (H2.out.old hb3)
  have HB3 := Lib.hid (HB2.out.trans (hb3.mono HB2.out.size))
  have HZ3 := Lib.hid hz3
  have hlen : ((r0.l.drop a).take n).length = n := by have := HL.out; rw [List.length_take, List.length_drop, r0_len]; omega
  have HN := Lib.hid hlen
  clear h5 hb3 hz3 hlen
  generalize (r0.l.drop a).take n = b at *
  have HS : Hid (w2.heap.size = q + 2) := HZ2
  generalize w2.heap.size = p at *
  have h6 := write_any w3 (q + 1) q r0 H3.out r0_ok a b _ n _ (Rd.of_blk HK.out) (by have := HS.out; omega) (by have := HS.out; omega) (by rw [HN.out]; exact Nat.le_refl _) (by omega) (by have := HL.out; omega)
  rw [HN.out] at h6
  have hw : r0.write a b = (0, r0.done a b) := by
    unfold Dk.write
    rw [HN.out, HE.out]
    rfl
  rw [hw] at h6
  clear hw
  go_wp2_with fail
  refine h6.mono ?_
  rintro e w4 ⟨rfl, h5, hb4, hz4⟩
  have H4 := Lib.hid h5
  have HB4 := Lib.hid (HB3.out.trans (hb4.below HB3.out.size (by have := HQ.out; omega) HQ.out))
  clear h5 hb4 hz4 h6
  go_wp2_with fail
  refine (writes_any w4 (q + 1) q _ H4.out).mono ?_
  rintro e w5 ⟨rfl, rfl⟩
  rw [show (r0.done a b).wr = 1 from rfl]
  go_wp2
  go_ret
  exact ⟨rfl, HB4.out⟩
theorem ranges_any (w : World) (a n : Int) (ha : -9223372036854775808 ≤ a) (ha' : a ≤ 9223372036854775807) :
    Calls Try.prog 7 #[.int .i64 a, .int .i64 n] w fun e w' => e = .returned (.bool true) ∧ Below w.heap.size w w' := by
  by_cases h : a < 0 ∨ n < 0 ∨ 2048 - a < n
  · exact ranges_bad w a n ha ha' h
  · obtain ⟨a, rfl⟩ : ∃ k : Nat, a = (k : Int) := ⟨a.toNat, by omega⟩
    obtain ⟨n, rfl⟩ : ∃ k : Nat, n = (k : Int) := ⟨n.toNat, by omega⟩
    exact ranges_ok w a n (by omega)
end Go.Proofs.Ytohdiepoeadenaa.Dsk
