/-
  The walk of the statement CrcSums: whatever the bytes it returns true, and nothing that was there before has changed.
-/
import Derived.Test.YtidmcccbblmmeaaC5
namespace Go.Proofs.Ytidmcccbblmmeaa
open Go.RowKit
set_option maxRecDepth 100000
set_option maxHeartbeats 400000 in
theorem crcSums_any (w : World) (A : Option Addr) (c : Nat) (bs : List Nat) (hR : RdB w w.heap.size A bs) (hc : bs.length ≤ c) (hb : Crc.Bs bs) (hm : bs.length ≤ 9223372036854775807) :
    Calls Try.prog 3 #[.slice A bs.length c] w fun e w' => e = .returned (.bool true) ∧ Below w.heap.size w w' := by
  have HR := Lib.hid hR
  have HBs := Lib.hid hb
  clear hR hb
  go_enter Try.func3, Try.ntmps3
  go_wp2_with fail
  refine (anchor_any w).mono ?_
  rintro e w1 ⟨rfl, hb1⟩
  have HB1 := Lib.hid hb1
  have hz1 := hb1.size
  clear hb1
  by_cases hlen : 3000 < bs.length
  · go_wp2
    go_ret
    exact ⟨rfl, HB1.out⟩
  · have hd1 : decide ((3000 : Int) < (bs.length : Int)) = false := by simp; omega
    go_wp2_with fail
    refine (sum_one w1 _ _ _ _ bs rfl rfl ((HR.out.below HB1.out).more hz1) hc HBs.out hm).mono ?_
    rintro e w2 ⟨rfl, hb2⟩
    have HB2 := Lib.hid (HB1.out.trans (hb2.mono hz1))
    have hs := Crc.sum_lt bs
    clear hb2
    generalize hS : Crc.sum bs = S at *
    have HS := Lib.hid hS
    clear hS
    go_wp2_with fail
    refine (ref_any w2 _ _ _ bs (HR.out.below HB2.out) HBs.out hm).mono ?_
    rintro e w3 ⟨rfl, rfl⟩
    rw [HS.out]
    go_wp2
    go_ret
    exact ⟨rfl, HB2.out⟩
end Go.Proofs.Ytidmcccbblmmeaa
