/-
  The walk of the statement CrcPuts: whatever the number and the bytes it returns true, and nothing that was there before has changed.
-/
import Derived.Test.YtidmcccbblmmeaaC6
namespace Go.Proofs.Ytidmcccbblmmeaa
open Go.RowKit
theorem put_blk (w : World) (n : Nat) : Blk (w.alloc (.cells (Vs .u8 (put4 n)) 5)) w.heap.size 5 (Vs .u8 (put4 n)) := Blk.new w 5 _
theorem blk_rd {w : World} {g : Nat} {l : List Nat} (h : Blk w g 5 (Vs .u8 l)) : RdB w w.heap.size (some ⟨g, 0, none⟩) l := fun _ => ⟨_, rfl, h.lt, fun j u hu => by
  rw [Addr.add_mid, Nat.zero_add, h.cell]
  simpa [Vs] using hu⟩
theorem blk_at {w : World} {g : Nat} {l : List Nat} (h : Blk w g 5 (Vs .u8 l)) (i : Nat) (hi : i < l.length) : w.cell? ⟨g, i, none⟩ = some (.int .u8 (l.getD i 0 : Nat)) := by
  rw [h.cell]; exact Vs_get _ _ _ hi
set_option maxRecDepth 100000
set_option maxHeartbeats 1000000 in
theorem crcPuts_bad (w : World) (n : Nat) (A : Option Addr) (c : Nat) (bs : List Nat) (hn : n < 4294967296) (hl : bs.length ≠ 4) :
    Calls Try.prog 7 #[.int .u32 (n : Int), .slice A bs.length c] w fun e w' => e = .returned (.bool true) ∧ Below w.heap.size w w' := by
  go_enter Try.func7, Try.ntmps7
  go_wp2_with fail
  refine (anchor_any w).mono ?_
  rintro e w1 ⟨rfl, hb1⟩
  have HB1 := Lib.hid hb1
  have hz1 := hb1.size
  clear hb1
  go_wp2_with fail
  refine (put_any n w1 hn).mono ?_
  rintro e w2 ⟨rfl, hw2⟩
  have HK2 : Hid (Blk w2 w1.heap.size 5 (Vs .u8 (put4 n))) := Lib.hid (by rw [← hw2]; exact put_blk w1 n)
  have HB2 : Hid (Below w.heap.size w w2) := Lib.hid (by rw [← hw2]; exact HB1.out.alloc hz1 _)
  have hz2 := HB2.out.size
  clear hw2
  generalize hg : w1.heap.size = g at *
  clear hg HB1
  go_wp2_with fail
  refine (get_ok w2 _ 4 _ (put4 n) rfl (blk_rd HK2.out) (put4_Bs hn)).mono ?_
  rintro e w3 ⟨rfl, k3, rfl⟩
  rw [put4_num]
  have HK3 : Hid (Blk (w2.drewN k3) g 5 (Vs .u8 (put4 n))) := Lib.hid (HK2.out.drewN k3)
  have HB3 : Hid (Below w.heap.size w (w2.drewN k3)) := Lib.hid (below_drewN HB2.out k3)
  have hz3 : w.heap.size ≤ (w2.drewN k3).heap.size := HB3.out.size
  generalize w2.drewN k3 = w3 at *
  clear HK2 HB2 hz2
  have c0 : w3.cell? ⟨g, 0, none⟩ = some (.int .u8 (((n / 16777216 : Nat)) : Int)) := blk_at HK3.out 0 (by simp [put4])
  have hd0 : (((n / 16777216 : Nat) : Int) != (n : Int) / 16777216) = false := by simp
  go_wp2_with fail
  refine (get_bad w3 A bs.length c hl).mono ?_
  rintro e w4 ⟨rfl, rfl⟩
  have hd1 : ((bs.length : Int) != 4) = true := by simp; omega
  go_wp2
  go_ret
  exact ⟨rfl, HB3.out⟩
set_option maxHeartbeats 1000000 in
theorem crcPuts_ok (w : World) (n : Nat) (A : Option Addr) (c : Nat) (bs : List Nat) (hn : n < 4294967296) (hl : bs.length = 4) (hR : RdB w w.heap.size A bs) (hb : Crc.Bs bs) :
    Calls Try.prog 7 #[.int .u32 (n : Int), .slice A 4 c] w fun e w' => e = .returned (.bool true) ∧ Below w.heap.size w w' := by
  have HL := Lib.hid hl
  clear hl
  have HR := Lib.hid hR
  have HBs := Lib.hid hb
  clear hR hb
  go_enter Try.func7, Try.ntmps7
  go_wp2_with fail
  refine (anchor_any w).mono ?_
  rintro e w1 ⟨rfl, hb1⟩
  have HB1 := Lib.hid hb1
  have hz1 := hb1.size
  clear hb1
  go_wp2_with fail
  refine (put_any n w1 hn).mono ?_
  rintro e w2 ⟨rfl, hw2⟩
  have HK2 : Hid (Blk w2 w1.heap.size 5 (Vs .u8 (put4 n))) := Lib.hid (by rw [← hw2]; exact put_blk w1 n)
  have HB2 : Hid (Below w.heap.size w w2) := Lib.hid (by rw [← hw2]; exact HB1.out.alloc hz1 _)
  have hz2 := HB2.out.size
  clear hw2
  generalize hg : w1.heap.size = g at *
  clear hg HB1
  go_wp2_with fail
  refine (get_ok w2 _ 4 _ (put4 n) rfl (blk_rd HK2.out) (put4_Bs hn)).mono ?_
  rintro e w3 ⟨rfl, k3, rfl⟩
  rw [put4_num]
  have HK3 : Hid (Blk (w2.drewN k3) g 5 (Vs .u8 (put4 n))) := Lib.hid (HK2.out.drewN k3)
  have HB3 : Hid (Below w.heap.size w (w2.drewN k3)) := Lib.hid (below_drewN HB2.out k3)
  have hz3 : w.heap.size ≤ (w2.drewN k3).heap.size := HB3.out.size
  generalize w2.drewN k3 = w3 at *
  clear HK2 HB2 hz2
  go_wp2_with fail
  refine (get_ok w3 A c _ bs HL.out (HR.out.below HB3.out) HBs.out).mono ?_
  rintro e w4 ⟨rfl, k4, rfl⟩
  have HK4 : Hid (Blk (w3.drewN k4) g 5 (Vs .u8 (put4 n))) := Lib.hid (HK3.out.drewN k4)
  have HB4 : Hid (Below w.heap.size w (w3.drewN k4)) := Lib.hid (below_drewN HB3.out k4)
  have hz4 : w.heap.size ≤ (w3.drewN k4).heap.size := HB4.out.size
  generalize w3.drewN k4 = w4 at *
  clear HK3 HB3 hz3
  have c0 : w4.cell? ⟨g, 0, none⟩ = some (.int .u8 (((n / 16777216 : Nat)) : Int)) := blk_at HK4.out 0 (by simp [put4])
  have hd0 : (((n / 16777216 : Nat) : Int) != (n : Int) / 16777216) = false := by simp
  have hm := num4_lt HBs.out
  have HM := Lib.hid (num4_put HBs.out HL.out)
  generalize num4 bs = m at *
  go_wp2_with fail
  refine (put_any m w4 hm).mono ?_
  rintro e w5 ⟨rfl, hw5⟩
  have HK5 : Hid (Blk w5 w4.heap.size 5 (Vs .u8 (put4 m))) := Lib.hid (by rw [← hw5]; exact put_blk w4 m)
  have HB5 : Hid (Below w.heap.size w w5) := Lib.hid (by rw [← hw5]; exact HB4.out.alloc hz4 _)
  clear hw5 c0 hd0 HK4 HB4
  generalize w4.heap.size = q at *
  rw [HM.out] at HK5
  obtain ⟨ad, rfl, _, hcs⟩ := HR.out.below HB5.out (by rw [HL.out]; decide)
  have c0 : w5.cell? ad = some (.int .u8 (bs.getD 0 0 : Nat)) := hcs 0 _ (vals_get _ _ 0 (by rw [HL.out]; decide))
  have c1 : w5.cell? ⟨ad.block, ad.off + 1, none⟩ = some (.int .u8 (bs.getD 1 0 : Nat)) := hcs 1 _ (vals_get _ _ 1 (by rw [HL.out]; decide))
  have c2 : w5.cell? ⟨ad.block, ad.off + 2, none⟩ = some (.int .u8 (bs.getD 2 0 : Nat)) := hcs 2 _ (vals_get _ _ 2 (by rw [HL.out]; decide))
  have c3 : w5.cell? ⟨ad.block, ad.off + 3, none⟩ = some (.int .u8 (bs.getD 3 0 : Nat)) := hcs 3 _ (vals_get _ _ 3 (by rw [HL.out]; decide))
  have d0 := blk_at HK5.out 0 (by rw [HL.out]; decide)
  have d1 := blk_at HK5.out 1 (by rw [HL.out]; decide)
  have d2 := blk_at HK5.out 2 (by rw [HL.out]; decide)
  have d3 := blk_at HK5.out 3 (by rw [HL.out]; decide)
  clear hcs
  generalize bs.getD 0 0 = x0 at *; generalize bs.getD 1 0 = x1 at *; generalize bs.getD 2 0 = x2 at *; generalize bs.getD 3 0 = x3 at *
  go_wp2
  go_quiet (fail)
  go_wp2
  go_ret
  exact ⟨rfl, below_drewN HB5.out _⟩
theorem crcPuts_any (w : World) (n : Nat) (A : Option Addr) (c : Nat) (bs : List Nat) (hn : n < 4294967296) (hR : RdB w w.heap.size A bs) (hb : Crc.Bs bs) :
    Calls Try.prog 7 #[.int .u32 (n : Int), .slice A bs.length c] w fun e w' => e = .returned (.bool true) ∧ Below w.heap.size w w' := by
  by_cases hl : bs.length = 4
  · rw [hl]
    exact crcPuts_ok w n A c bs hn hl hR hb
  · exact crcPuts_bad w n A c bs hn hl
end Go.Proofs.Ytidmcccbblmmeaa
