/-
  The walk of the statement TextTold: whatever the string it returns true, and nothing that was there before has changed.
-/
import Derived.Test.YtchlikigjijdkaaDoorTA
import Derived.Test.YtchlikigjijdkaaDoorT3
namespace Go.Proofs.YtchlikigjijdkaaDoor.Txt
open Go.RowKit
set_option maxRecDepth 100000
set_option maxHeartbeats 1000000 in
theorem textTold_any (l : List UInt8) (w : World) (hT : Tabs w) (hm : l.length ≤ 9223372036854775807) :
    Calls Tryd.prog 3 #[.string (mk l)] w fun e w' => e = .returned (.bool true) ∧ Below w.heap.size w w' := by
  have h2 := hT.two
  have HT := Lib.hid hT
  clear hT
  have hms := mk_size
  have hmt := mk_toList
  go_enter Tryd.func3, Tryd.ntmps3
  go_wp2_with fail
  refine (anchor_any w HT.out).mono ?_
  rintro e w1 ⟨rfl, hb1⟩
  have HB1 := Lib.hid hb1
  have hz1 := hb1.size
  clear hb1
  by_cases hlen : 2000 < l.length
  · have hd1 : (2000 : Int) < (l.length : Int) := by omega
    go_wp2
    go_ret
    exact ⟨rfl, HB1.out⟩
  · have hd1 : (l.length : Int) ≤ (2000 : Int) := by omega
    go_wp2_with fail
    refine (rwrong_any l w1 (by omega)).mono ?_
    rintro e w2 ⟨rfl, rfl⟩
    have HC := Lib.hid (wrong_any l w1 (HT.out.below HB1.out h2) (by omega) (by omega))
    have HD := Lib.hid (fun w hT h2 => told_any l w hT h2 (by omega))
    generalize wrong l 0 = r at *
    go_wp2_with fail
    refine HC.out.mono ?_
    rintro e w3 ⟨rfl, hb3⟩
    have HB3 : Hid (Below w.heap.size w w3) := Lib.hid (HB1.out.trans (hb3.mono hz1))
    have hz3 := HB3.out.size
    clear hb3 HC
    go_wp2_with fail
    refine (HD.out w3 (HT.out.below HB3.out h2) (by omega)).mono ?_
    rintro e w4 ⟨rfl, hb4⟩
    have HB4 : Hid (Below w.heap.size w w4) := Lib.hid (HB3.out.trans (hb4.mono hz3))
    clear hb4 HD
    have hbb : (decide (r < 0) == decide (r < 0)) = true := by rw [beq_iff_eq]
    go_wp2
    go_ret
    exact ⟨rfl, HB4.out⟩
end Go.Proofs.YtchlikigjijdkaaDoor.Txt
