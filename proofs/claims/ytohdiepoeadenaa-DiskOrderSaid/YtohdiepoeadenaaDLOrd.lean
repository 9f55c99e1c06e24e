/-
  The walk of the statement DiskOrder: whatever the places, the bytes and the fuse it returns true, and nothing that was there before has changed.
-/
import Derived.Test.YtohdiepoeadenaaDNum
import Derived.Test.YtohdiepoeadenaaDLTor
namespace Go.Proofs.Ytohdiepoeadenaa.Dsk
open Go.RowKit
/-- The disk behind k writes, with a fuse of W writes and m bytes. -/
def oS (L : List UInt8) (W m k : Nat) : Dk := if k ≤ W then ⟨L, false, k, true, ((W - k : Nat) : Int), m⟩ else ⟨L, true, W + 1, true, 0, m⟩
theorem oS_l (L : List UInt8) (W m k : Nat) : (oS L W m k).l = L := by unfold oS; split <;> rfl
theorem oS_ok {L : List UInt8} (W m k : Nat) (hL : L.length = 1024) (hk : k ≤ 100) (hW : W ≤ 9223372036854775807) : (oS L W m k).ok := by
  unfold oS
  split
  · exact ⟨by show L.length ≤ _; omega, by show (0 : Int) ≤ ((W - k : Nat) : Int); omega, by show ((W - k : Nat) : Int) ≤ _; omega, by show (0 : Int) ≤ (m : Int); omega, by show k ≤ _; omega⟩
  · exact ⟨by show L.length ≤ _; omega, by show (0 : Int) ≤ 0; decide, by show (0 : Int) ≤ _; decide, by show (0 : Int) ≤ (m : Int); omega, by show W + 1 ≤ _; omega⟩
theorem oS_less {L b : List UInt8} {W m k x : Nat} (hL : L.length = 1024) (hx : x + b.length ≤ 1024) (hk : k < W) : (oS L W m k).write x b = (0, oS (splice L x b) W m (k + 1)) := by
  unfold oS
  rw [if_pos (by omega), if_pos (by omega)]
  unfold Dk.write
  rw [Dk.err_ok rfl (by show ¬ ((x : Int) < 0 ∨ (b.length : Int) < 0 ∨ (L.length : Int) - x < b.length); omega)]
  have h : ¬ ((true && (((W - k : Nat) : Int) == 0)) = true) := by simp; omega
  rw [if_neg (by simp), if_neg h]
  unfold Dk.done
  simp only [Int.toNat_natCast, if_true, Prod.mk.injEq, Dk.mk.injEq, and_true, true_and]
  omega
theorem oS_same {L b : List UInt8} {W m x : Nat} (hL : L.length = 1024) (hx : x + b.length ≤ 1024) : (oS L W m W).write x b = (20, oS (splice L x (b.take m)) W m (W + 1)) := by
  unfold oS
  rw [if_pos (by omega), if_neg (by omega)]
  unfold Dk.write
  rw [Dk.err_ok rfl (by show ¬ ((x : Int) < 0 ∨ (b.length : Int) < 0 ∨ (L.length : Int) - x < b.length); omega)]
  have h : ((true && (((W - W : Nat) : Int) == 0)) = true) := by simp
  rw [if_neg (by simp), if_pos h]
  unfold Dk.torn
  simp
theorem oS_more {L b : List UInt8} {W m k : Nat} {x : Int} (hk : W < k) : (oS L W m k).write x b = (20, oS L W m (k + 1)) := by
  unfold oS
  rw [if_neg (by omega), if_neg (by omega)]
  unfold Dk.write
  rw [Dk.err_down rfl]
  rfl
theorem oS_start (L : List UInt8) (W m k : Nat) : ∃ r, ({ oS L W m k with down := false, set := false, fw := 0, fb := 0 } : Dk) = ⟨L, false, r, false, 0, 0⟩ := by
  unfold oS
  split
  · exact ⟨_, rfl⟩
  · exact ⟨_, rfl⟩
/-- Behind k rounds: the row that was asked for, the disk, and all that was there. -/
def RInv (w : World) (B d g p W m k : Nat) (L : List UInt8) (wr : World) : Prop := L.length = 1024 ∧ Blk wr p 5 (bc L) ∧ Dsk wr d g (oS L W m k) ∧ Below B w wr
set_option maxRecDepth 100000
set_option maxHeartbeats 1000000 in
theorem order_bad (w : World) (Z : Option Addr) (cz : Nat) (zs : List Int) (A : Option Addr) (c : Nat) (b : List UInt8) (W m : Int) (h : 30 < zs.length ∨ 40 < b.length ∨ W < 0 ∨ m < 0) :
    Calls Try.prog 6 #[.slice Z zs.length cz, .slice A b.length c, .int .i64 W, .int .i64 m] w fun e w' => e = .returned (.bool true) ∧ Below w.heap.size w w' := by
  have hx : (30 : Int) < zs.length ∨ (¬ (30 : Int) < zs.length ∧ (40 : Int) < b.length) ∨ (¬ (30 : Int) < zs.length ∧ ¬ (40 : Int) < b.length ∧ W < 0) ∨ (¬ (30 : Int) < zs.length ∧ ¬ (40 : Int) < b.length ∧ 0 ≤ W ∧ m < 0) := by omega
  clear h
  rcases hx with h1 | ⟨h1, h2⟩ | ⟨h1, h2, h3⟩ | ⟨h1, h2, h3, h4⟩
  all_goals
    go_enter Try.func6, Try.ntmps6
    go_wp2_with fail
    refine (anchor_any w).mono ?_
    rintro e w1 ⟨rfl, hb1⟩
    have HB1 := Lib.hid hb1
    clear hb1
    go_wp2
    go_ret
    exact ⟨rfl, HB1.out⟩
set_option maxHeartbeats 4000000 in
theorem order_ok (w : World) (Z : Option Addr) (cz : Nat) (zs : List Int) (A : Option Addr) (c : Nat) (b : List UInt8) (W m : Nat) (hzl : zs.length ≤ 30) (hbl : b.length ≤ 40) (hW : W ≤ 9223372036854775807) (hbc : b.length ≤ c) (hZ : RdI w (· < w.heap.size) Z zs) (hR : Rd w (· < w.heap.size) A b) :
    Calls Try.prog 6 #[.slice Z zs.length cz, .slice A b.length c, .int .i64 (W : Int), .int .i64 (m : Int)] w fun e w' => e = .returned (.bool true) ∧ Below w.heap.size w w' := by
  have h1 : ¬ (30 : Int) < zs.length := by omega
  have h2 : ¬ (40 : Int) < b.length := by omega
  have h3 : ¬ (W : Int) < 0 := by omega
  have h4 : ¬ (m : Int) < 0 := by omega
  have HZl := Lib.hid hzl
  have HBl := Lib.hid hbl
  have HW := Lib.hid hW
  have HBC := Lib.hid hbc
  have HZ := Lib.hid hZ
  have HR := Lib.hid hR
  have hmk := run_zeros 1024 (by decide)
  rw [show ((1024 : Nat) : Int) = (1024 : Int) from rfl] at hmk
  clear hzl hbl hW hbc hZ hR
  obtain ⟨Y, hY⟩ : ∃ Y, Y = List.replicate 1024 (0 : UInt8) := ⟨_, rfl⟩
  rw [← hY] at hmk
  have HYl : Hid (Y.length = 1024) := Lib.hid (by rw [hY]; simp)
  have HY := Lib.hid hY
  clear hY
  go_enter Try.func6, Try.ntmps6
  go_wp2_with fail
  refine (anchor_any w).mono ?_
  rintro e w1 ⟨rfl, hb1⟩
  have HB1 := Lib.hid hb1
  clear hb1
  go_wp2_with fail
  refine (new_ok w1 1024 (by decide) (by decide)).mono ?_
  rintro e w2 ⟨rfl, h5, hb2, hz2⟩
  have H2 := Lib.hid h5
  have HB2 := Lib.hid (HB1.out.trans (hb2.mono HB1.out.size))
  have HQ := Lib.hid HB1.out.size
  have HZ2 := Lib.hid hz2
  clear h5 hb2 hz2 HB1
  generalize w1.heap.size = g at *
  go_wp2_with fail
  refine (light_ok w2 (g + 1) g _ H2.out W m (by omega) (by omega)).mono ?_
  rintro e w3 ⟨rfl, h5, hb3, hz3⟩
  have H3 : Hid (Dsk w3 (g + 1) g (oS Y W m 0)) := Lib.hid (by unfold oS; rw [if_pos (Nat.zero_le _), HY.out]; exact h5)
  have HB3 := Lib.hid (HB2.out.trans (hb3.below HB2.out.size (by have := HQ.out; omega) HQ.out))
  have HZ3 : Hid (w3.heap.size = g + 2) := Lib.hid (by rw [hz3]; exact HZ2.out)
  clear h5 hb3 hz3 H2 HB2 HZ2
  go_wp2_with fail
  have HT : Hid (RInv w w.heap.size (g + 1) g w3.heap.size W m 0 Y (w3.alloc (.cells (bc Y).toArray 5))) := Lib.hid ⟨HYl.out, Blk.new w3 _ _ _ rfl, H3.out.old ((Below.refl _ _).alloc (Nat.le_refl _) _), HB3.out.alloc HB3.out.size _⟩
  have HP : Hid (w3.heap.size = g + 2) := HZ3
  generalize w3.heap.size = p at *
  generalize (w3.alloc (.cells (bc Y).toArray 5)) = w4 at *
  clear hmk H3 HB3 HYl HZ3 HY
  go_loopw [51] (fun i wr => ∃ (k : Nat) (L : List UInt8), k ≤ zs.length ∧ i = .int .i64 k ∧ RInv w w.heap.size (g + 1) g p W m k L wr) (fun i _ => zs.length - (intOf i).toNat)
  case atStart => exact ⟨0, Y, Nat.zero_le _, rfl, HT.out⟩
  case round =>
    obtain ⟨k, L, hk, rfl, hinv⟩ := hrel
    clear HT
    obtain ⟨hL, hrow, hdsk, hbel⟩ := hinv
    have HL := Lib.hid hL
    have HRow := Lib.hid hrow
    have HD := Lib.hid hdsk
    have HB := Lib.hid hbel
    clear hL hrow hdsk hbel
    have hp := HP.out
    have hq := HQ.out
    have hzl := HZl.out
    by_cases hlt : k < zs.length
    · obtain ⟨ad, rfl, _, hcs⟩ := HZ.out.below HB.out (fun k h => h) (by omega)
      have hc1 := hcs k _ (List.getElem?_eq_getElem hlt)
      clear hcs
      generalize zs[k] = x at *
      by_cases hx : x < 0 ∨ 900 < x
      · have hx' : x < 0 ∨ (0 ≤ x ∧ 900 < x) := by omega
        clear hx
        rcases hx' with h5 | ⟨h5, h6⟩
        all_goals
          clear hp hq
          go_wp2
          go_ret
          exact ⟨rfl, HB.out⟩
      · have h5 : ¬ x < 0 := by omega
        have h6 : ¬ 900 < x := by omega
        obtain ⟨x, rfl⟩ : ∃ y : Nat, x = (y : Int) := ⟨x.toNat, by omega⟩
        clear hx
        have hxb : x + b.length ≤ 1024 := by have := HBl.out; omega
        have HXB := Lib.hid hxb
        have c1 := write_any wr (g + 1) g (oS L W m k) HD.out (oS_ok W m k HL.out (by omega) HW.out) x b A c _ (HR.out.below HB.out (fun k h => h)) (by omega) (by omega) HBC.out (by omega) (by omega)
        obtain ⟨P, hP, hP'⟩ := run_from p 1024 x (by omega)
        have HPP := Lib.hid hP'
        clear hP' hxb
        by_cases hkW : k < W
        · rw [oS_less HL.out HXB.out hkW] at c1
          have hkW' : (k : Int) < W := by omega
          clear hp hq
          go_wp2_with fail
          refine c1.mono ?_
          rintro e w5 ⟨rfl, h7, hb5, hz5⟩
          clear c1
          have H5 := Lib.hid h7
          have HRow5 := Lib.hid (HRow.out.but hb5 (by have := HP.out; omega) (by have := HP.out; omega))
          have HB5 := Lib.hid (HB.out.trans (hb5.below HB.out.size (by have := HQ.out; omega) HQ.out))
          clear h7 hb5 hz5 HRow HB HD
          go_wp2_with ((with_reducible refine wpList_copy_but rfl (.tmp 72) (.tmp 73) 30 30 rfl 5 Try.underlying30 size5 _ _ _ _ _ _ rfl rfl p x (bc L) 5 HRow5.out (bc b) ?hn ?hpos ?hfit (bc_one _) ?_); rotate_right; intro w6 HK6 HB6 HZ6)
          case hn => have := HXB.out; rw [bc_length]; show _ = min _ _; omega
          case hpos =>
            intro h0
            have := HXB.out
            rw [bc_length] at h0
            exact ⟨HPP.out (by omega), (HR.out.below HB5.out (fun k h => h)).all (by rw [bc_length]; exact h0)⟩
          case hfit => have := HXB.out; rw [bc_length, bc_length, HL.out]; exact this
          go_roundw
          case rel =>
            refine ⟨k + 1, splice L x b, by omega, by go_num, by rw [splice_length _ _ _ (by rw [HL.out]; exact HXB.out), HL.out], by rw [bc_splice]; exact HK6.out, H5.out.but (HB6.out p) (by have := HP.out; omega) (by have := HP.out; omega) (by have := HP.out; omega) (by have := HP.out; omega), HB5.out.trans ((HB6.out p).below HB5.out.size (by have := HP.out; have := HQ.out; omega) (by have := HP.out; have := HQ.out; omega))⟩
          case measure => simp [intOf]; omega
        by_cases hkE : k = W
        · have c2 := c1
          clear c1
          rw [show oS L W m k = oS L W m W from by rw [hkE], oS_same HL.out HXB.out] at c2
          have hkW' : ¬ (k : Int) < W := by omega
          have hkE' : ((k : Int) == W) = true := by simp; omega
          have HKE := Lib.hid hkE
          obtain ⟨k2, hk2⟩ : ∃ k2, k2 = min m b.length := ⟨_, rfl⟩
          have hmin : (if (b.length : Int) < (m : Int) then (b.length : Int) else (m : Int)) = (k2 : Int) := by split <;> omega
          have hmin' : (if b.length < m then (b.length : Int) else (m : Int)) = (k2 : Int) := by split <;> omega
          have hkc : k2 ≤ c := by have := HBC.out; omega
          have hup := run_upto A b.length c k2 hkc
          have HTk : Hid (b.take m = b.take k2) := Lib.hid (by
            rw [hk2]
            by_cases hx : b.length ≤ m
            · rw [Nat.min_eq_right hx, List.take_of_length_le hx, List.take_of_length_le (Nat.le_refl _)]
            · rw [Nat.min_eq_left (by omega)])
          have HK2b : Hid (k2 ≤ b.length) := Lib.hid (by omega)
          clear hp hq hkE hk2
          go_wp2_with fail
          refine c2.mono ?_
          rintro e w5 ⟨rfl, h7, hb5, hz5⟩
          clear c2
          have H5 := Lib.hid h7
          have HRow5 := Lib.hid (HRow.out.but hb5 (by have := HP.out; omega) (by have := HP.out; omega))
          have HB5 := Lib.hid (HB.out.trans (hb5.below HB.out.size (by have := HQ.out; omega) HQ.out))
          clear h7 hb5 hz5 HRow HB HD
          go_wp2
          go_still_tail 9, (by kernel_rfl)
          change wpList _ _ _ _ _ w5.drew
          refine wpList_copy_but rfl (.tmp 83) (.tmp 89) 30 30 rfl 5 Try.underlying30 size5 _ _ _ _ _ _ rfl rfl p x (bc L) 5 HRow5.out (bc (b.take k2)) ?hn ?hpos ?hfit (bc_one _) ?_
          case hn => have := HXB.out; have := HK2b.out; rw [bc_length, List.length_take]; show _ = min _ _; omega
          case hpos =>
            intro h0
            have := HXB.out
            have := HK2b.out
            rw [bc_length, List.length_take] at h0
            exact ⟨HPP.out (by omega), ((HR.out.below HB5.out (fun k h => h)).below ((Below.refl w.heap.size w5).drew) (fun k h => h)).cells k2 (by rw [bc_length, List.length_take]; omega)⟩
          case hfit => have := HXB.out; have := HK2b.out; rw [bc_length, bc_length, List.length_take, HL.out]; omega
          intro w6 HK6 HB6 HZ6
          go_wp2
          go_roundw
          case rel =>
            refine ⟨k + 1, splice L x (b.take k2), by omega, by go_num, by rw [splice_length _ _ _ (by rw [HL.out, List.length_take]; have := HXB.out; omega), HL.out], by rw [bc_splice]; exact HK6.out, ?_, HB5.out.drew.trans ((HB6.out p).below HB5.out.size (by have := HP.out; have := HQ.out; omega) (by have := HP.out; have := HQ.out; omega))⟩
            have hd := (show Dsk w5.drew (g + 1) g _ from ⟨H5.out.blk, H5.out.row, H5.out.ne⟩).but (HB6.out p) (by have := HP.out; omega) (by have := HP.out; omega) (by have := HP.out; omega) (by have := HP.out; omega)
            rw [HTk.out] at hd
            rw [HKE.out]
            exact hd
          case measure => simp [intOf]; omega
        · have hkG : W < k := by omega
          rw [oS_more hkG] at c1
          have hkW' : ¬ (k : Int) < W := by omega
          have hkE' : ((k : Int) == W) = false := by simp; omega
          clear hp hq
          go_wp2_with fail
          refine c1.mono ?_
          rintro e w5 ⟨rfl, h7, hb5, hz5⟩
          clear c1
          have H5 := Lib.hid h7
          have HRow5 := Lib.hid (HRow.out.but hb5 (by have := HP.out; omega) (by have := HP.out; omega))
          have HB5 := Lib.hid (HB.out.trans (hb5.below HB.out.size (by have := HQ.out; omega) HQ.out))
          clear h7 hb5 hz5 HRow HB HD
          go_wp2
          go_roundw
          case rel => exact ⟨k + 1, L, by omega, by go_num, HL.out, HRow5.out, H5.out, HB5.out⟩
          case measure => simp [intOf]; omega
    · clear hp hq hzl
      go_wp2_with fail
      refine (start_any wr (g + 1) g _ HD.out).mono ?_
      rintro e w5 ⟨rfl, h7, hb5, hz5⟩
      obtain ⟨r, hr⟩ := oS_start L W m k
      have hl := HL.out
      rw [hr] at h7
      have H5 := Lib.hid h7
      have HRow5 := Lib.hid (HRow.out.but hb5 (by have := HP.out; omega) (by have := HP.out; omega))
      have HB5 := Lib.hid (HB.out.trans (hb5.below HB.out.size (by have := HQ.out; omega) HQ.out))
      clear h7 hb5 hz5 HRow HB HD hr
      have c1 := read_ok w5 (g + 1) g _ H5.out 0 1024 (by show L.length ≤ _; rw [hl]; decide) rfl (by show _ ≤ L.length; rw [hl]; decide)
      rw [take_all hl] at c1
      clear hl
      go_wp2_with fail
      refine c1.mono ?_
      rintro e w6 ⟨rfl, h7, hb6, hz6⟩
      clear c1
      have hcv1 := conv_rd 1024 1024 (Rd.of_blk h7) HL.out.symm
      have hcv2 := conv_rd 1024 1024 (Rd.of_blk (HRow5.out.below hb6 HRow5.out.lt)) HL.out.symm
      have HB6 := Lib.hid (HB5.out.trans (hb6.mono HB5.out.size))
      clear h7 hb6 hz6 HRow5
      generalize w5.heap.size = q at *
      generalize mk L = str at *
      go_wp2
      go_ret
      exact ⟨by simp, HB6.out⟩
theorem order_any (w : World) (Z : Option Addr) (cz : Nat) (zs : List Int) (A : Option Addr) (c : Nat) (b : List UInt8) (W m : Int) (hW : W ≤ 9223372036854775807) (_hm : m ≤ 9223372036854775807) (hbc : b.length ≤ c) (_hx : cz ≤ 2 ^ 63 - 1) (_hy : c ≤ 2 ^ 63 - 1) (hZ : RdI w (· < w.heap.size) Z zs) (hR : Rd w (· < w.heap.size) A b) :
    Calls Try.prog 6 #[.slice Z zs.length cz, .slice A b.length c, .int .i64 W, .int .i64 m] w fun e w' => e = .returned (.bool true) ∧ Below w.heap.size w w' := by
  by_cases h : 30 < zs.length ∨ 40 < b.length ∨ W < 0 ∨ m < 0
  · exact order_bad w Z cz zs A c b W m h
  · obtain ⟨W, rfl⟩ : ∃ k : Nat, W = (k : Int) := ⟨W.toNat, by omega⟩
    obtain ⟨m, rfl⟩ : ∃ k : Nat, m = (k : Int) := ⟨m.toNat, by omega⟩
    exact order_ok w Z cz zs A c b W m (by omega) (by omega) (by omega) hbc hZ hR
end Go.Proofs.Ytohdiepoeadenaa.Dsk
