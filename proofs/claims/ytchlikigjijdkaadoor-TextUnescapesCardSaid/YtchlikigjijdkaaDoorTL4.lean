/-
  The walk of the statement TextUnescapes: whatever the string it returns true, and nothing that was there before has changed.
-/
import Derived.Test.YtchlikigjijdkaaDoorTA
import Derived.Test.YtchlikigjijdkaaDoorT8
namespace Go.Proofs.YtchlikigjijdkaaDoor.Txt
open Go.RowKit
set_option maxRecDepth 100000
set_option maxHeartbeats 1000000 in
theorem textUnescapes_any (l : List UInt8) (w : World) (hT : Tabs w) (hm : l.length ≤ 9223372036854775807) :
    Calls Tryd.prog 6 #[.string (mk l)] w fun e w' => e = .returned (.bool true) ∧ Below w.heap.size w w' := by
  have h2 := hT.two
  have HT := Lib.hid hT
  clear hT
  have hms := mk_size
  have hmt := mk_toList
  go_enter Tryd.func6, Tryd.ntmps6
  go_wp2_with fail
  refine (anchor_any w HT.out).mono ?_
  rintro e w1 ⟨rfl, hb1⟩
  have HB1 := Lib.hid hb1
  have hz1 := hb1.size
  clear hb1
  by_cases hlen : 1000 < l.length
  · have hd1 : (1000 : Int) < (l.length : Int) := by omega
    go_wp2
    go_ret
    exact ⟨rfl, HB1.out⟩
  · have hd1 : (l.length : Int) ≤ (1000 : Int) := by omega
    go_wp2_with fail
    refine (unescape_any l w1 (HT.out.below HB1.out h2) (by omega) (by omega)).mono ?_
    rintro e w2 ⟨rfl, hb2⟩
    have HB2 : Hid (Below w.heap.size w w2) := Lib.hid (HB1.out.trans (hb2.mono hz1))
    have hz2 := HB2.out.size
    clear hb2
    have HC := Lib.hid (runescape_any l w2 (by omega))
    generalize unE l = r at *
    obtain ⟨t, ec⟩ := r
    simp only at HC
    simp only
    go_wp2_with fail
    refine HC.out.mono ?_
    rintro e w3 ⟨rfl, hb3⟩
    have HB3 : Hid (Below w.heap.size w w3) := Lib.hid (HB2.out.trans (hb3.mono hz2))
    clear hb3 HC
    have hbb : (t == t) = true := by rw [beq_iff_eq]
    have hcc : ((ec : Int) == (ec : Int)) = true := by rw [beq_iff_eq]
    go_wp2
    go_ret
    exact ⟨rfl, HB3.out⟩
end Go.Proofs.YtchlikigjijdkaaDoor.Txt
