/-
  The walk of the statement B64Decodes: whatever the text it returns true, and nothing that was there before has changed.
-/
import Derived.Test.YtcpifencjmlhaaaQ5
import Derived.Test.YtcpifencjmlhaaaQ6
import Derived.Test.YtcpifencjmlhaaaQ7
namespace Go.Proofs.Ytcpifencjmlhaaa.B64
open Go.RowKit
set_option maxRecDepth 100000
set_option maxHeartbeats 1000000 in
theorem b64Decodes_any (w : World) (s : ByteArray) (hm : s.size ≤ 9223372036854775807) :
    Calls Try.prog 4 #[.string s] w fun e w' => e = .returned (.bool true) ∧ Below w.heap.size w w' := by
  obtain ⟨cs, hcs, rfl⟩ : ∃ cs, Bs cs ∧ str cs = s := ⟨bytes s, bytes_Bs s, str_bytes s⟩
  have HBs := Lib.hid hcs
  have hsz := str_size cs
  rw [hsz] at hm
  clear hcs
  generalize hsc : str cs = scs at *
  have HS := Lib.hid hsc
  clear hsc
  go_enter Try.func4, Try.ntmps4
  go_wp2_with fail
  refine (anchor_any w).mono ?_
  rintro e w1 ⟨rfl, hb1⟩
  have HB1 := Lib.hid hb1
  have hz1 := hb1.size
  clear hb1
  by_cases hlen : 2000 < cs.length
  · go_wp2
    go_ret
    exact ⟨rfl, HB1.out⟩
  · have hd1 : decide ((2000 : Int) < (cs.length : Int)) = false := decide_eq_false (by omega)
    have HT : Hid (∀ w, Calls Try.prog 9 #[.string scs] w fun e w' => Told w' w.heap.size (decO url cs) e ∧ Below w.heap.size w w') := Lib.hid fun w => by
      rw [← HS.out]
      exact Decode_any w cs HBs.out (by omega)
    have HU : Hid (∀ w, Calls Try.prog 11 #[.string scs] w fun e w' => RTold w' w.heap.size (decO url cs) e ∧ Below w.heap.size w w') := Lib.hid fun w => by
      rw [← HS.out]
      exact rDecode_any w cs HBs.out (by omega)
    go_wp2_with fail
    refine (HT.out w1).mono ?_
    rintro e w2 ⟨he, hb2⟩
    have HB2 := Lib.hid (HB1.out.trans (hb2.mono hz1))
    have hz2 := HB2.out.size
    clear hb2 HT
    cases hD : decO url cs with
    | none =>
      rw [hD] at he HU
      have he : e = .returned (.tuple #[.slice none 0 0, .int .i64 10]) := he
      subst he
      clear hD
      go_wp2_with fail
      refine (HU.out w2).mono ?_
      rintro e w3 ⟨he, hb3⟩
      have he : e = .returned (.tuple #[.slice none 0 0, .bool false]) := he
      subst he
      have HB3 := Lib.hid (HB2.out.trans (hb3.mono hz2))
      clear hb3 HU
      go_wp2
      go_ret
      exact ⟨rfl, HB3.out⟩
    | some d =>
      rw [hD] at he HU
      obtain ⟨v, rfl, ho2⟩ := he
      have HX := Lib.hid (enc_decO url_alpha HBs.out hD)
      have HL := Lib.hid (decO_len hD)
      have HO2 := Lib.hid ho2
      clear hD ho2
      go_wp2_with fail
      refine (HU.out w2).mono ?_
      rintro e w3 ⟨⟨v2, rfl, ho3⟩, hb3⟩
      have HB3 := Lib.hid (HB2.out.trans (hb3.mono hz2))
      have hz3 := HB3.out.size
      have ho2 := own_below HO2.out hb3
      have hc1 : (convert 22 9 v).run Try.prog w3 = .ok (.string (str d)) w3 := conv_own ho2
      have hc2 : (convert 22 9 v2).run Try.prog w3 = .ok (.string (str d)) w3 := conv_own ho3
      obtain ⟨Ad, cd, hv, _, _, _, hrd, _⟩ := own_form ho2
      have HC : Hid (Calls Try.prog 8 #[v] w3 fun e w' => e = .returned (.string scs) ∧ Below w3.heap.size w3 w') := Lib.hid (by
        have h := Encode_any w3 Ad cd d hrd HX.out.2 (by have := HL.out; omega)
        rw [← hv] at h
        rw [← HS.out, ← HX.out.1]
        exact h)
      clear hb3 HU HO2 ho2 ho3 hrd hv HX
      generalize str d = sd at *
      go_wp2_with fail
      refine HC.out.mono ?_
      rintro e w4 ⟨rfl, hb4⟩
      have HB4 := Lib.hid (HB3.out.trans (hb4.mono hz3))
      clear hb4 HC hc1 hc2
      go_wp2
      go_ret
      exact ⟨rfl, HB4.out⟩
end Go.Proofs.Ytcpifencjmlhaaa.B64
