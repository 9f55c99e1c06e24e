/-
  The walk of the statement TextEscapes: whatever the string it returns true, and nothing that was there before has changed.
-/
import Derived.Test.YtchlikigjijdkaaDoorTA
import Derived.Test.YtchlikigjijdkaaDoorT3
import Derived.Test.YtchlikigjijdkaaDoorT5
namespace Go.Proofs.YtchlikigjijdkaaDoor.Txt
open Go.RowKit
set_option maxRecDepth 100000
set_option maxHeartbeats 2000000 in
theorem textEscapes_any (l : List UInt8) (w : World) (hT : Tabs w) (hm : l.length ≤ 9223372036854775807) :
    Calls Tryd.prog 5 #[.string (mk l)] w fun e w' => e = .returned (.bool true) ∧ Below w.heap.size w w' := by
  have h2 := hT.two
  have HT := Lib.hid hT
  clear hT
  have hms := mk_size
  have hmt := mk_toList
  go_enter Tryd.func5, Tryd.ntmps5
  go_wp2_with fail
  refine (anchor_any w HT.out).mono ?_
  rintro e w1 ⟨rfl, hb1⟩
  have HB1 := Lib.hid hb1
  have hz1 := hb1.size
  clear hb1
  by_cases hlen : 1000 < l.length
  · have hd1 : (1000 : Int) < (l.length : Int) := by omega
    go_wp2
    go_ret
    exact ⟨rfl, HB1.out⟩
  · have hd1 : (l.length : Int) ≤ (1000 : Int) := by omega
    have hel := esc_len l
    have HL := Lib.hid (esc_letters l)
    have HRW := Lib.hid (fun w => rwrong_any l w (by omega))
    have HUE : Hid (unE (esc l) = if wrong l 0 < 0 then (l, 0) else ([], 30)) := Lib.hid (by
      by_cases hw : wrong l 0 < 0
      · rw [unE_good (un_esc l) hw, if_pos hw]
      · rw [unE_wrong (un_esc l) hw, if_neg hw])
    go_wp2_with fail
    refine (escape_any l w1 (by omega)).mono ?_
    rintro e w2 ⟨rfl, hb2⟩
    have HB2 : Hid (Below w.heap.size w w2) := Lib.hid (HB1.out.trans (hb2.mono hz1))
    have hz2 := HB2.out.size
    clear hb2
    have HRE := Lib.hid (fun w => rescape_any l w (by omega))
    have HUN := Lib.hid (unescape_any (esc l) w2 (HT.out.below HB2.out h2) (by omega) (by omega))
    generalize esc l = t at *
    generalize unE t = ue at *
    obtain ⟨u, ec⟩ := ue
    simp only at HUN
    generalize wrong l 0 = r at *
    go_wp2_with fail
    refine HUN.out.mono ?_
    rintro e w3 ⟨rfl, hb3⟩
    have HB3 : Hid (Below w.heap.size w w3) := Lib.hid (HB2.out.trans (hb3.mono hz2))
    have hz3 := HB3.out.size
    clear hb3 HUN
    go_wp2_with fail
    refine (HRE.out w3).mono ?_
    rintro e w4 ⟨rfl, hb4⟩
    have HB4 : Hid (Below w.heap.size w w4) := Lib.hid (HB3.out.trans (hb4.mono hz3))
    clear hb4 HRE HB1 HB2 HB3
    have hbb : (t == t) = true := by rw [beq_iff_eq]
    go_wp2
    go_loop [25] (fun v => ∃ k : Nat, k ≤ t.length ∧ v = .int .i64 k) (fun v => t.length - (intOf v).toNat)
    case atStart => exact ⟨0, by omega, rfl⟩
    case round =>
      obtain ⟨k, hk, rfl⟩ := hrel
      by_cases hlt : k < t.length
      · have hix : ∀ w, (Instr.index 9 (.string (mk t)) (.int .i64 (k : Int))).run Tryd.prog w = .ok (.int .u8 ((t.getD k 0).toNat : Nat)) w := fun w => run_idx w t .i64 k hlt
        have hin : t.getD k 0 ∈ t := by rw [List.getD_eq_getElem?_getD, List.getElem?_eq_getElem hlt]; exact List.getElem_mem hlt
        obtain ⟨a1, a2, a3, a4⟩ := HL.out _ hin
        have q1 : (((t.getD k 0).toNat : Int) == 38) = false := by rw [beq_eq_false_iff_ne]; omega
        have q2 : (((t.getD k 0).toNat : Int) == 61) = false := by rw [beq_eq_false_iff_ne]; omega
        have q3 : (32 : Int) < ((t.getD k 0).toNat : Int) := by omega
        have q4 : ((t.getD k 0).toNat : Int) < (127 : Int) := by omega
        clear a1 a2 a3 a4 hin
        generalize (t.getD k 0).toNat = b at *
        go_wp2
        go_round
        case rel => exact ⟨k + 1, by omega, by go_num⟩
        case measure => simp [intOf]; omega
      · obtain rfl : k = t.length := by omega
        go_wp2_with fail
        refine (HRW.out _).mono ?_
        rintro e w5 ⟨rfl, rfl⟩
        by_cases hr : r < 0
        · have he := HUE.out
          rw [if_pos hr] at he
          injection he with e1 e2
          subst e1
          subst e2
          have hll : (u == u) = true := by rw [beq_iff_eq]
          clear HUE
          go_wp2
          go_ret
          exact ⟨rfl, HB4.out⟩
        · have he := HUE.out
          rw [if_neg hr] at he
          injection he with e1 e2
          subst e1
          subst e2
          have hr' : 0 ≤ r := by omega
          clear HUE hr
          go_wp2
          go_ret
          exact ⟨rfl, HB4.out⟩
end Go.Proofs.YtchlikigjijdkaaDoor.Txt
