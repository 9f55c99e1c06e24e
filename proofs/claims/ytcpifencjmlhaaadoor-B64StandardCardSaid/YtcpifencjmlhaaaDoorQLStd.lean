/-
  The walk of the statement B64Standard: whatever the bytes it returns true, and nothing that was there before has changed.
-/
import Derived.Test.YtcpifencjmlhaaaDoorQ6
import Derived.Test.YtcpifencjmlhaaaDoorQ10
namespace Go.Proofs.YtcpifencjmlhaaaDoor.B64
open Go.RowKit
set_option maxRecDepth 100000
set_option maxHeartbeats 1000000 in
theorem b64Standard_any (w : World) (A : Option Addr) (c : Nat) (bs : List Nat) (hR : RdB w w.heap.size A bs) (hb : Bs bs) (hm : bs.length ≤ 9223372036854775807) :
    Calls Tryd.prog 3 #[.slice A bs.length c] w fun e w' => e = .returned (.bool true) ∧ Below w.heap.size w w' := by
  have HR := Lib.hid hR
  have HBs := Lib.hid hb
  clear hR hb
  go_enter Tryd.func3, Tryd.ntmps3
  go_wp2_with fail
  refine (anchor_any w).mono ?_
  rintro e w1 ⟨rfl, hb1⟩
  have HB1 := Lib.hid hb1
  have hz1 := hb1.size
  clear hb1
  by_cases hlen : 2000 < bs.length
  · go_wp2
    go_ret
    exact ⟨rfl, HB1.out⟩
  · have hd1 : decide ((2000 : Int) < (bs.length : Int)) = false := decide_eq_false (by omega)
    go_wp2_with fail
    refine (Standard_any w1 A c bs ((HR.out.below HB1.out).more hz1) HBs.out (by omega)).mono ?_
    rintro e w2 ⟨rfl, hb2⟩
    have HB2 := Lib.hid (HB1.out.trans (hb2.mono hz1))
    have hz2 := HB2.out.size
    have HT : Hid (∀ w, Calls Tryd.prog 7 #[.string (str (stdL bs))] w fun e w' => (∃ v, e = .returned (.tuple #[v, .int .i64 0]) ∧ Own w' w.heap.size v bs) ∧ Below w.heap.size w w') := Lib.hid fun w => by
      have h := FromStandard_any w (stdL bs) (stdL_Bs bs) (by rw [stdL_length]; unfold pad len; omega)
      rw [fromS_std bs HBs.out] at h
      exact h
    have HE : Hid (∀ w, RdB w w.heap.size A bs → Calls Tryd.prog 8 #[.slice A bs.length c] w fun e w' => e = .returned (.string (str (stdL bs))) ∧ Below w.heap.size w w') := Lib.hid fun w hR => common_any w A c bs hR HBs.out (by omega)
    have hsz : (str (stdL bs)).size = len bs.length + pad (len bs.length) := by rw [str_size, stdL_length]
    have hq4 : (((str (stdL bs)).size : Nat) : Int) % 4 = 0 := by rw [hsz]; unfold pad; omega
    have hsl : (str (stdL bs)).size ≤ 10000 := by rw [hsz]; unfold pad len; omega
    clear hb2 HB1 hz1 hsz
    generalize str (stdL bs) = se at *
    go_wp2_with fail
    refine (HT.out w2).mono ?_
    rintro e w3 ⟨⟨v, rfl, ho3⟩, hb3⟩
    have HB3 := Lib.hid (HB2.out.trans (hb3.mono hz2))
    have hz3 := HB3.out.size
    have HO3 := Lib.hid ho3
    clear hb3 ho3 HB2 HT
    go_wp2_with fail
    refine (HE.out w3 ((HR.out.below HB3.out).more hz3)).mono ?_
    rintro e w4 ⟨rfl, hb4⟩
    have HB4 := Lib.hid (HB3.out.trans (hb4.mono hz3))
    have hc1 : (convert 22 9 v).run Tryd.prog w4 = .ok (.string (str bs)) w4 := conv_own (own_below HO3.out hb4)
    have hc2 : (convert 22 9 (.slice A bs.length c)).run Tryd.prog w4 = .ok (.string (str bs)) w4 := conv_bytes (HR.out.below HB4.out)
    clear hb4 HB3 HE HO3
    generalize str bs = sb at *
    go_wp2
    go_ret
    exact ⟨rfl, HB4.out⟩
end Go.Proofs.YtcpifencjmlhaaaDoor.B64
