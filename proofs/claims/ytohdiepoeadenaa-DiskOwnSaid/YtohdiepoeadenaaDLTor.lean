/-
  The walk of the statement DiskTorn: whatever the numbers and the bytes it returns true, and nothing that was there before has changed.
-/
import Derived.Test.YtohdiepoeadenaaDA
namespace Go.Proofs.Ytohdiepoeadenaa.Dsk
open Go.RowKit
theorem a0_ok : a0.ok := ⟨by decide +kernel, by decide +kernel, by decide +kernel, by decide +kernel, by decide +kernel⟩
theorem a0_len : a0.l.length = 1024 := by decide +kernel
/-- Behind the first rounds: a row of 1024 bytes, a disk, and all that was there. -/
def TInv (w : World) (B d g p : Nat) (wr : World) : Prop := ∃ L : List UInt8, L.length = 1024 ∧ Blk wr p 5 (bc L) ∧ Dsk wr d g a0 ∧ Below B w wr
theorem byte_of (k : Nat) : ((k : Int) * 7 + 1) % 256 = ((UInt8.ofNat (k * 7 + 1)).toNat : Nat) := by
  simp only [UInt8.toNat_ofNat']
  omega
theorem take_all {l : List UInt8} {n : Nat} (h : l.length = n) : (l.drop 0).take n = l := by
  rw [List.drop_zero, List.take_of_length_le (by omega)]
/-- The disks on the way. -/
def t1 (L : List UInt8) : Dk := ⟨L, false, 1, false, 0, 0⟩
def t2 (L : List UInt8) (n : Nat) : Dk := ⟨L, false, 1, true, 0, n⟩
def t3 (L b : List UInt8) (a n : Nat) : Dk := ⟨splice L a (b.take n), true, 2, true, 0, n⟩
def t4 (L b : List UInt8) (a n : Nat) : Dk := ⟨splice L a (b.take n), false, 2, false, 0, 0⟩
theorem step1 {L : List UInt8} (hL : L.length = 1024) : a0.write 0 L = (0, t1 L) := by
  have he : a0.err 0 L.length = 0 := Dk.err_ok rfl (by rw [a0_len, hL]; decide)
  unfold Dk.write
  rw [if_neg (by rw [he]; simp), if_neg (show ¬ ((a0.set && a0.fw == 0) = true) by decide)]
  unfold Dk.done t1
  rw [show (0 : Int).toNat = 0 from rfl, splice_all _ _ (by rw [a0_len, hL])]
  rfl
theorem t1_len {L : List UInt8} (hL : L.length = 1024) : (t1 L).l.length = 1024 := hL
theorem step3 {L b : List UInt8} {a : Nat} (n : Nat) (hL : L.length = 1024) (hab : a + b.length ≤ 1024) : (t2 L n).write a b = (20, t3 L b a n) := by
  have he : (t2 L n).err a b.length = 0 := Dk.err_ok rfl (by show ¬ ((a : Int) < 0 ∨ (b.length : Int) < 0 ∨ (L.length : Int) - a < b.length); omega)
  unfold Dk.write
  rw [if_neg (by rw [he]; simp), if_pos (by simp [t2])]
  rfl
theorem step4 (L b M : List UInt8) (a n : Nat) : (t3 L b a n).write 0 M = (20, t3 L b a n) := by
  unfold Dk.write
  rw [Dk.err_down (s := t3 L b a n) rfl]
  rfl
theorem t3_len {L b : List UInt8} {a : Nat} (n : Nat) (hL : L.length = 1024) (hab : a + b.length ≤ 1024) : (splice L a (b.take n)).length = 1024 := by
  rw [splice_length _ _ _ (by rw [List.length_take]; omega), hL]
set_option maxRecDepth 100000
set_option maxHeartbeats 1000000 in
theorem torn_bad (w : World) (a : Int) (A : Option Addr) (c : Nat) (b : List UInt8) (n : Int) (h : a < 0 ∨ 1024 < a ∨ 1024 - a < b.length ∨ n < 0) (ha : -9223372036854775808 ≤ a) (ha' : a ≤ 9223372036854775807) :
    Calls Try.prog 4 #[.int .i64 a, .slice A b.length c, .int .i64 n] w fun e w' => e = .returned (.bool true) ∧ Below w.heap.size w w' := by
  have hx : a < 0 ∨ (0 ≤ a ∧ 1024 < a) ∨ (0 ≤ a ∧ a ≤ 1024 ∧ 1024 - a < b.length) ∨ (0 ≤ a ∧ a ≤ 1024 ∧ (b.length : Int) ≤ 1024 - a ∧ n < 0) := by omega
  clear h
  rcases hx with h1 | ⟨h1, h2⟩ | ⟨h1, h2, h3⟩ | ⟨h1, h2, h3, h4⟩
  all_goals
    go_enter Try.func4, Try.ntmps4
    go_wp2_with fail
    refine (anchor_any w).mono ?_
    rintro e w1 ⟨rfl, hb1⟩
    have HB1 := Lib.hid hb1
    clear hb1
    go_wp2
    go_ret
    exact ⟨rfl, HB1.out⟩
set_option maxHeartbeats 4000000 in
theorem torn_ok (w : World) (a : Nat) (A : Option Addr) (c : Nat) (b : List UInt8) (n : Nat) (hab : a + b.length ≤ 1024) (hn : n ≤ 9223372036854775807) (hbc : b.length ≤ c) (hR : Rd w (· < w.heap.size) A b) :
    Calls Try.prog 4 #[.int .i64 (a : Int), .slice A b.length c, .int .i64 (n : Int)] w fun e w' => e = .returned (.bool true) ∧ Below w.heap.size w w' := by
  have h1 : ¬ (a : Int) < 0 := by omega
  have h2 : ¬ (1024 : Int) < a := by omega
  have h3 : ¬ (1024 : Int) - a < b.length := by omega
  have h4 : ¬ (n : Int) < 0 := by omega
  have HAB := Lib.hid hab
  have HBC := Lib.hid hbc
  have HN := Lib.hid hn
  have HR := Lib.hid hR
  have hmk := run_zeros 1024 (by decide)
  rw [show ((1024 : Nat) : Int) = (1024 : Int) from rfl] at hmk
  have HZl : Hid ((List.replicate 1024 (0 : UInt8)).length = 1024) := Lib.hid (by simp)
  generalize List.replicate 1024 (0 : UInt8) = Z at *
  clear hR hab hbc hn
  go_enter Try.func4, Try.ntmps4
  go_wp2_with fail
  refine (anchor_any w).mono ?_
  rintro e w1 ⟨rfl, hb1⟩
  have HB1 := Lib.hid hb1
  clear hb1
  go_wp2_with fail
  refine (new_ok w1 1024 (by decide) (by decide)).mono ?_
  rintro e w2 ⟨rfl, h5, hb2, hz2⟩
  have H2 : Hid (Dsk w2 (w1.heap.size + 1) w1.heap.size a0) := Lib.hid h5
  have HB2 := Lib.hid (HB1.out.trans (hb2.mono HB1.out.size))
  have HQ := Lib.hid HB1.out.size
  have HZ2 := Lib.hid hz2
  clear h5 hb2 hz2 HB1
  generalize w1.heap.size = g at *
  go_wp2_with fail
  have HT : Hid (TInv w w.heap.size (g + 1) g w2.heap.size (w2.alloc (.cells (bc Z).toArray 5))) := Lib.hid ⟨Z, HZl.out, Blk.new w2 _ _ _ rfl, H2.out.old ((Below.refl _ _).alloc (Nat.le_refl _) _), HB2.out.alloc HB2.out.size _⟩
  have HP : Hid (w2.heap.size = g + 2) := HZ2
  generalize w2.heap.size = p at *
  generalize (w2.alloc (.cells (bc Z).toArray 5)) = w3 at *
  clear hmk H2 HB2 HZl HZ2
  go_loopw [43] (fun i wr => ∃ k : Nat, k ≤ 1024 ∧ i = .int .i64 k ∧ TInv w w.heap.size (g + 1) g p wr) (fun i _ => 1024 - (intOf i).toNat)
  case atStart => exact ⟨0, by decide, rfl, HT.out⟩
  case round =>
    obtain ⟨k, hk, rfl, hinv⟩ := hrel
    clear HT
    obtain ⟨L, hL, hrow, hdsk, hbel⟩ := hinv
    have HL := Lib.hid hL
    have HRow := Lib.hid hrow
    have HD := Lib.hid hdsk
    have HB := Lib.hid hbel
    clear hL hdsk hbel
    by_cases hlt : k < 1024
    · have hc1 : wr.cell? ⟨p, k, none⟩ = some (.int .u8 ((L.getD k 0).toNat : Nat)) := by rw [hrow.cell k]; exact bc_get _ _ (by rw [HL.out]; exact hlt)
      have hf1 : wr.frozen? ⟨p, k, none⟩ = false := hrow.frozen k
      clear hrow
      go_wp2
      go_roundw
      case rel =>
        refine ⟨k + 1, by omega, by go_num, L.set k (UInt8.ofNat (k * 7 + 1)), by rw [List.length_set]; exact HL.out, ?_, ?_, ?_⟩
        · rw [← bc_set]
          have := HRow.out.put k (.int .u8 ((UInt8.ofNat (k * 7 + 1)).toNat : Nat))
          rw [← byte_of] at this
          rw [← byte_of]
          exact this
        · exact ⟨HD.out.blk.other _ _ (by have := HP.out; omega), HD.out.row.other _ _ (by have := HP.out; omega), HD.out.ne⟩
        · exact HB.out.setCell (by show _ ≤ p; have := HP.out; have := HQ.out; omega) _
      case measure => simp [intOf]; omega
    · clear hrow
      have hkk : k = 1024 := by omega
      have HKK := Lib.hid hkk
      have hp := HP.out
      have hq := HQ.out
      have c1 := write_any wr (g + 1) g a0 HD.out a0_ok 0 L _ 1024 _ (Rd.of_blk HRow.out) (by omega) (by omega) (by rw [HL.out]; decide) (by decide) (by decide)
      rw [step1 HL.out, HL.out] at c1
      clear hkk hp hq
      go_wp2_with fail
      refine c1.mono ?_
      rintro e w4 ⟨rfl, h5, hb4, hz4⟩
      clear c1
      have H4 : Hid (Dsk w4 (g + 1) g (t1 L)) := Lib.hid h5
      have HRow4 := Lib.hid (HRow.out.but hb4 (by have := HP.out; omega) (by have := HP.out; omega))
      have HB4 := Lib.hid (HB.out.trans (hb4.below HB.out.size (by have := HQ.out; omega) HQ.out))
      clear h5 hb4 hz4 HRow HB HD
      go_wp2_with fail
      refine (light_ok w4 (g + 1) g _ H4.out 0 n (by decide) (by omega)).mono ?_
      rintro e w5 ⟨rfl, h5, hb5, hz5⟩
      have H5 : Hid (Dsk w5 (g + 1) g (t2 L n)) := Lib.hid h5
      have HRow5 := Lib.hid (HRow4.out.but hb5 (by have := HP.out; omega) (by have := HP.out; omega))
      have HB5 := Lib.hid (HB4.out.trans (hb5.below HB4.out.size (by have := HQ.out; omega) HQ.out))
      clear h5 hb5 hz5 HRow4 HB4 H4
      have c1 := write_any w5 (g + 1) g (t2 L n) H5.out ⟨by show L.length ≤ _; rw [HL.out]; decide, by show (0 : Int) ≤ 0; decide, by show (0 : Int) ≤ _; decide, by show (0 : Int) ≤ (n : Int); omega, by show 1 ≤ _; decide⟩ a b A c _ (HR.out.below HB5.out (fun k h => h)) (by have := HQ.out; omega) (by have := HQ.out; omega) HBC.out (by omega) (by have := HAB.out; omega)
      rw [step3 n HL.out HAB.out] at c1
      go_wp2_with fail
      refine c1.mono ?_
      rintro e w6 ⟨rfl, h5, hb6, hz6⟩
      clear c1
      have H6 : Hid (Dsk w6 (g + 1) g (t3 L b a n)) := Lib.hid h5
      have HRow6 := Lib.hid (HRow5.out.but hb6 (by have := HP.out; omega) (by have := HP.out; omega))
      have HB6 := Lib.hid (HB5.out.trans (hb6.below HB5.out.size (by have := HQ.out; omega) HQ.out))
      clear h5 hb6 hz6 HRow5 HB5 H5
      have c1 := write_any w6 (g + 1) g (t3 L b a n) H6.out ⟨by show (splice L a (b.take n)).length ≤ _; rw [t3_len n HL.out HAB.out]; decide, by show (0 : Int) ≤ 0; decide, by show (0 : Int) ≤ _; decide, by show (0 : Int) ≤ (n : Int); omega, by show 2 ≤ _; decide⟩ 0 L _ 1024 _ (Rd.of_blk HRow6.out) (by have := HP.out; omega) (by have := HP.out; omega) (by rw [HL.out]; decide) (by decide) (by decide)
      rw [step4, HL.out] at c1
      go_wp2_with fail
      refine c1.mono ?_
      rintro e w7 ⟨rfl, h5, hb7, hz7⟩
      clear c1
      have H7 : Hid (Dsk w7 (g + 1) g (t3 L b a n)) := Lib.hid h5
      have HRow7 := Lib.hid (HRow6.out.but hb7 (by have := HP.out; omega) (by have := HP.out; omega))
      have HB7 := Lib.hid (HB6.out.trans (hb7.below HB6.out.size (by have := HQ.out; omega) HQ.out))
      clear h5 hb7 hz7 HRow6 HB6 H6
      have c1 := read_bad w7 (g + 1) g (t3 L b a n) H7.out 0 1 (by decide) (by decide) (by show (splice L a (b.take n)).length ≤ _; rw [t3_len n HL.out HAB.out]; decide) (by rw [Dk.err_down (s := t3 L b a n) rfl]; decide)
      rw [Dk.err_down (s := t3 L b a n) rfl] at c1
      go_wp2_with fail
      refine c1.mono ?_
      rintro e w8 ⟨rfl, rfl⟩
      clear c1
      go_wp2_with fail
      refine (start_any w7 (g + 1) g _ H7.out).mono ?_
      rintro e w8 ⟨rfl, h5, hb8, hz8⟩
      have H8 : Hid (Dsk w8 (g + 1) g (t4 L b a n)) := Lib.hid h5
      have HRow8 := Lib.hid (HRow7.out.but hb8 (by have := HP.out; omega) (by have := HP.out; omega))
      have HB8 := Lib.hid (HB7.out.trans (hb8.below HB7.out.size (by have := HQ.out; omega) HQ.out))
      clear h5 hb8 hz8 HRow7 HB7 H7
      have c1 := read_ok w8 (g + 1) g (t4 L b a n) H8.out 0 1024 (by show (splice L a (b.take n)).length ≤ _; rw [t3_len n HL.out HAB.out]; decide) rfl (by show _ ≤ (splice L a (b.take n)).length; rw [t3_len n HL.out HAB.out]; decide)
      rw [show (t4 L b a n).l = splice L a (b.take n) from rfl, take_all (t3_len n HL.out HAB.out)] at c1
      go_wp2_with fail
      refine c1.mono ?_
      rintro e w9 ⟨rfl, h5, hb9, hz9⟩
      clear c1
      have H9 := Lib.hid h5
      have HRow9 := Lib.hid (HRow8.out.below hb9 HRow8.out.lt)
      have HRl := Lib.hid HRow8.out.lt
      have HB9 := Lib.hid (HB8.out.trans (hb9.mono HB8.out.size))
      clear h5 hb9 hz9 HRow8 HB8 H8
      generalize w8.heap.size = q at *
      obtain ⟨k2, hk2⟩ : ∃ k2, k2 = min n b.length := ⟨_, rfl⟩
      have hmin : (if (b.length : Int) < (n : Int) then (b.length : Int) else (n : Int)) = (k2 : Int) := by split <;> omega
      have hmin' : (if b.length < n then (b.length : Int) else (n : Int)) = (k2 : Int) := by split <;> omega
      have hkc : k2 ≤ c := by have := HBC.out; omega
      have hup := run_upto A b.length c k2 hkc
      have HT : Hid (b.take n = b.take k2) := Lib.hid (by
        rw [hk2]
        by_cases hx : b.length ≤ n
        · rw [Nat.min_eq_right hx, List.take_of_length_le hx, List.take_of_length_le (Nat.le_refl _)]
        · rw [Nat.min_eq_left (by omega)])
      have HK2b : Hid (k2 ≤ b.length) := Lib.hid (by omega)
      obtain ⟨P, hP, hP'⟩ := run_from p 1024 a (by have := HAB.out; omega)
      have HPP := Lib.hid hP'
      clear hk2 hP'
      go_wp2
      go_still_tail 9, (by kernel_rfl)
      change wpList _ _ _ _ _ w9.drew
      refine wpList_copy_but rfl (.tmp 94) (.tmp 100) 30 30 rfl 5 Try.underlying30 size5 _ _ _ _ _ _ rfl rfl p a (bc L) 5 HRow9.out (bc (b.take k2)) ?hn ?hpos ?hfit (bc_one _) ?_
      case hn => have := HAB.out; have := HK2b.out; rw [bc_length, List.length_take]; show _ = min _ _; omega
      case hpos =>
        intro h0
        have := HAB.out
        have := HK2b.out
        rw [bc_length, List.length_take] at h0
        exact ⟨HPP.out (by omega), ((HR.out.below HB9.out (fun k h => h)).below ((Below.refl w.heap.size w9).drew) (fun k h => h)).cells k2 (by rw [bc_length, List.length_take]; omega)⟩
      case hfit => have := HAB.out; have := HK2b.out; rw [bc_length, bc_length, List.length_take, HL.out]; omega
      intro w10 HK10 HB10 HZ10
      have H10 := Lib.hid ((show Blk w9.drew q _ _ from H9.out).but (HB10.out p) (by have := HRl.out; omega) (by have := HRl.out; omega))
      have hcv1 := conv_rd 1024 1024 (Rd.of_blk H10.out) (t3_len n HL.out HAB.out).symm
      have hcv2 : (convert 30 9 (.slice (some ⟨p, 0, none⟩) 1024 1024)).run Try.prog w10 = .ok (.string (mk (splice L a (b.take n)))) w10 := by
        refine conv_rd 1024 1024 (Rd.of_blk ?_) (t3_len n HL.out HAB.out).symm
        rw [HT.out, bc_splice]
        exact HK10.out
      have HBe : Hid (Below w.heap.size w w10) := Lib.hid ((HB9.out.drew).trans ((HB10.out p).below HB9.out.size (by have := HP.out; have := HQ.out; omega) (by have := HP.out; have := HQ.out; omega)))
      generalize mk (splice L a (b.take n)) = str at *
      go_wp2
      go_ret
      exact ⟨by simp, HBe.out⟩
theorem torn_any (w : World) (a : Int) (A : Option Addr) (c : Nat) (b : List UInt8) (n : Int) (ha : -9223372036854775808 ≤ a) (ha' : a ≤ 9223372036854775807) (hn : n ≤ 9223372036854775807) (hbc : b.length ≤ c) (_hx : c ≤ 2 ^ 63 - 1) (hR : Rd w (· < w.heap.size) A b) :
    Calls Try.prog 4 #[.int .i64 a, .slice A b.length c, .int .i64 n] w fun e w' => e = .returned (.bool true) ∧ Below w.heap.size w w' := by
  by_cases h : a < 0 ∨ 1024 < a ∨ 1024 - a < b.length ∨ n < 0
  · exact torn_bad w a A c b n h ha ha'
  · obtain ⟨a, rfl⟩ : ∃ k : Nat, a = (k : Int) := ⟨a.toNat, by omega⟩
    obtain ⟨n, rfl⟩ : ∃ k : Nat, n = (k : Int) := ⟨n.toNat, by omega⟩
    exact torn_ok w a A c b n (by omega) (by omega) hbc hR
end Go.Proofs.Ytohdiepoeadenaa.Dsk
