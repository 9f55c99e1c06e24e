/-
  The walk of the statement B64Commons: whatever the text it returns true, and nothing that was there before has changed.
-/
import Derived.Test.YtcpifencjmlhaaaDoorQ6
import Derived.Test.YtcpifencjmlhaaaDoorQ10
namespace Go.Proofs.YtcpifencjmlhaaaDoor.B64
open Go.RowKit
/-- A letter of the common alphabet. -/
def isStd (c : Nat) : Bool := decide (0 ≤ ixI std c)
theorem isStd_says : ∀ c, c < 256 → isStd c = (decide (97 ≤ c ∧ c ≤ 122) || decide (65 ≤ c ∧ c ≤ 90) || decide (48 ≤ c ∧ c ≤ 57) || decide (c = 43) || decide (c = 47)) := by decide +kernel
/-- Of four letters a group, and all of the first k in the alphabet. -/
def plainTo (cs : List Nat) (k : Nat) : Bool := decide (cs.length % 4 = 0) && (cs.take k).all isStd
theorem plainTo_step (cs : List Nat) (k : Nat) (h : k < cs.length) : plainTo cs (k + 1) = (plainTo cs k && isStd (cs.getD k 0)) := by
  unfold plainTo
  rw [List.take_add_one, List.getElem?_eq_getElem h, Option.toList_some, List.all_append, List.getD_eq_getElem?_getD, List.getElem?_eq_getElem h, Option.getD_some, Bool.and_assoc]
  simp
theorem plainTo_all {cs : List Nat} (h : fromS cs = none) : plainTo cs cs.length = false := by
  rw [Bool.eq_false_iff]
  intro hp
  unfold plainTo at hp
  rw [List.take_length, Bool.and_eq_true, decide_eq_true_eq, List.all_eq_true] at hp
  exact fromS_plain hp.1 (fun c hc => by have := hp.2 c hc; unfold isStd at this; exact of_decide_eq_true this) h
theorem bool_num {a b : Bool} (h : a = b) : Value.bool a = .bool b := by rw [h]
set_option maxRecDepth 100000
set_option maxHeartbeats 4000000 in
theorem b64Commons_any (w : World) (s : ByteArray) (hm : s.size ≤ 9223372036854775807) :
    Calls Tryd.prog 4 #[.string s] w fun e w' => e = .returned (.bool true) ∧ Below w.heap.size w w' := by
  obtain ⟨cs, hcs, rfl⟩ : ∃ cs, Bs cs ∧ str cs = s := ⟨bytes s, bytes_Bs s, str_bytes s⟩
  have HBs := Lib.hid hcs
  have hsz := str_size cs
  rw [hsz] at hm
  have HIX : Hid (∀ (k : Nat), k < cs.length → ∀ w, (Instr.index 9 (.string (str cs)) (.int .i64 (k : Int))).run Tryd.prog w = .ok (.int .u8 (cs.getD k 0 : Nat)) w) := Lib.hid fun k hk w => run_idx w cs hcs .i64 k hk
  clear hcs
  generalize hsc : str cs = scs at *
  have HS := Lib.hid hsc
  clear hsc
  go_enter Tryd.func4, Tryd.ntmps4
  go_wp2_with fail
  refine (anchor_any w).mono ?_
  rintro e w1 ⟨rfl, hb1⟩
  have HB1 := Lib.hid hb1
  have hz1 := hb1.size
  clear hb1
  by_cases hlen : 2000 < cs.length
  · go_wp2
    go_ret
    exact ⟨rfl, HB1.out⟩
  have hd1 : decide ((2000 : Int) < (cs.length : Int)) = false := decide_eq_false (by omega)
  have HT : Hid (∀ w, Calls Tryd.prog 7 #[.string scs] w fun e w' => Told w' w.heap.size (fromS cs) e ∧ Below w.heap.size w w') := Lib.hid fun w => by
    rw [← HS.out]
    exact FromStandard_any w cs HBs.out (by omega)
  go_wp2_with fail
  refine (HT.out w1).mono ?_
  rintro e w2 ⟨he, hb2⟩
  have HB2 := Lib.hid (HB1.out.trans (hb2.mono hz1))
  have hz2 := HB2.out.size
  clear hb2 HT
  cases hD : fromS cs with
  | some d =>
    rw [hD] at he
    obtain ⟨v, rfl, ho2⟩ := he
    have hx := std_fromS HBs.out hD
    have hl := fromS_len hD
    obtain ⟨Ad, cd, hv, _, _, _, hrd, _⟩ := own_form ho2
    have HC : Hid (Calls Tryd.prog 8 #[v] w2 fun e w' => e = .returned (.string scs) ∧ Below w2.heap.size w2 w') := Lib.hid (by
      have h := common_any w2 Ad cd d hrd hx.2 (by omega)
      rw [← hv, hx.1, HS.out] at h
      exact h)
    clear hD ho2 hrd hv hx hl
    go_wp2_with fail
    refine HC.out.mono ?_
    rintro e w3 ⟨rfl, hb3⟩
    have HB3 := Lib.hid (HB2.out.trans (hb3.mono hz2))
    clear hb3 HC
    go_wp2
    go_ret
    exact ⟨rfl, HB3.out⟩
  | none =>
    rw [hD] at he
    have he : e = .returned (.tuple #[.slice none 0 0, .int .i64 10]) := he
    subst he
    have HPL := Lib.hid (plainTo_all hD)
    have HP0 : Hid (((cs.length : Int) % 4 == 0) = plainTo cs 0) := Lib.hid (by
      unfold plainTo
      rw [List.take_zero, List.all_nil, Bool.and_true]
      by_cases h : cs.length % 4 = 0
      · rw [decide_eq_true h, beq_iff_eq]; omega
      · rw [decide_eq_false h, beq_eq_false_iff_ne]; omega)
    clear hD
    go_wp2
    go_loop [5, 30] (fun p i => ∃ k : Nat, k ≤ cs.length ∧ i = .int .i64 k ∧ p = .bool (plainTo cs k)) (fun _ i => cs.length - (intOf i).toNat)
    case atStart => exact ⟨0, by omega, rfl, bool_num HP0.out⟩
    case round =>
      obtain ⟨k, hk, rfl, rfl⟩ := hrel
      clear HP0
      by_cases hlt : k < cs.length
      · have hix := HIX.out k hlt
        have hx := HBs.out.getD k
        have HST := Lib.hid (plainTo_step cs k hlt)
        have HSY := Lib.hid (isStd_says (cs.getD k 0) hx)
        generalize plainTo cs k = p at *
        generalize cs.getD k 0 = x at *
        cases p with
        | false =>
          have HR : Hid (plainTo cs (k + 1) = false) := Lib.hid (by rw [HST.out]; rfl)
          clear HST HSY
          go_wp2
          go_round
          case rel => exact ⟨k + 1, by omega, by go_num, bool_num HR.out.symm⟩
          case measure => simp [intOf]; omega
        | true =>
          rw [Bool.true_and] at HST
          rcases (by omega : (0 ≤ x ∧ x < 43) ∨ x = 43 ∨ (44 ≤ x ∧ x < 47) ∨ x = 47 ∨ (48 ≤ x ∧ x < 58) ∨ (58 ≤ x ∧ x < 65) ∨ (65 ≤ x ∧ x < 91) ∨ (91 ≤ x ∧ x < 97) ∨ (97 ≤ x ∧ x < 123) ∨ (123 ≤ x ∧ x < 256)) with hc | hc | hc | hc | hc | hc | hc | hc | hc | hc
          · have HR : Hid (plainTo cs (k + 1) = false) := Lib.hid (by
              rw [HST.out, HSY.out]
              simp only [Bool.or_eq_false_iff, decide_eq_false_iff_not]
              omega)
            have e97 : decide ((97 : Int) ≤ (x : Int)) = false := decide_eq_false (by omega)
            have e122 : decide ((x : Int) ≤ 122) = true := decide_eq_true (by omega)
            have e65 : decide ((65 : Int) ≤ (x : Int)) = false := decide_eq_false (by omega)
            have e90 : decide ((x : Int) ≤ 90) = true := decide_eq_true (by omega)
            have e48 : decide ((48 : Int) ≤ (x : Int)) = false := decide_eq_false (by omega)
            have e57 : decide ((x : Int) ≤ 57) = true := decide_eq_true (by omega)
            have e43 : ((x : Int) == 43) = false := beq_false_of_ne (by omega)
            have e47 : ((x : Int) == 47) = false := beq_false_of_ne (by omega)
            clear hc
            clear HST HSY
            go_wp2
            go_round
            case rel => exact ⟨k + 1, by omega, by go_num, bool_num HR.out.symm⟩
            case measure => simp [intOf]; omega
          · have HR : Hid (plainTo cs (k + 1) = true) := Lib.hid (by
              rw [HST.out, HSY.out]
              simp only [Bool.or_eq_true, decide_eq_true_eq]
              omega)
            subst hc
            rw [show ((43 : Nat) : Int) = (43 : Int) from rfl] at hix
            clear HST HSY
            go_wp2
            go_round
            case rel => exact ⟨k + 1, by omega, by go_num, bool_num HR.out.symm⟩
            case measure => simp [intOf]; omega
          · have HR : Hid (plainTo cs (k + 1) = false) := Lib.hid (by
              rw [HST.out, HSY.out]
              simp only [Bool.or_eq_false_iff, decide_eq_false_iff_not]
              omega)
            have e97 : decide ((97 : Int) ≤ (x : Int)) = false := decide_eq_false (by omega)
            have e122 : decide ((x : Int) ≤ 122) = true := decide_eq_true (by omega)
            have e65 : decide ((65 : Int) ≤ (x : Int)) = false := decide_eq_false (by omega)
            have e90 : decide ((x : Int) ≤ 90) = true := decide_eq_true (by omega)
            have e48 : decide ((48 : Int) ≤ (x : Int)) = false := decide_eq_false (by omega)
            have e57 : decide ((x : Int) ≤ 57) = true := decide_eq_true (by omega)
            have e43 : ((x : Int) == 43) = false := beq_false_of_ne (by omega)
            have e47 : ((x : Int) == 47) = false := beq_false_of_ne (by omega)
            clear hc
            clear HST HSY
            go_wp2
            go_round
            case rel => exact ⟨k + 1, by omega, by go_num, bool_num HR.out.symm⟩
            case measure => simp [intOf]; omega
          · have HR : Hid (plainTo cs (k + 1) = true) := Lib.hid (by
              rw [HST.out, HSY.out]
              simp only [Bool.or_eq_true, decide_eq_true_eq]
              omega)
            subst hc
            rw [show ((47 : Nat) : Int) = (47 : Int) from rfl] at hix
            clear HST HSY
            go_wp2
            go_round
            case rel => exact ⟨k + 1, by omega, by go_num, bool_num HR.out.symm⟩
            case measure => simp [intOf]; omega
          · have HR : Hid (plainTo cs (k + 1) = true) := Lib.hid (by
              rw [HST.out, HSY.out]
              simp only [Bool.or_eq_true, decide_eq_true_eq]
              omega)
            have e97 : decide ((97 : Int) ≤ (x : Int)) = false := decide_eq_false (by omega)
            have e122 : decide ((x : Int) ≤ 122) = true := decide_eq_true (by omega)
            have e65 : decide ((65 : Int) ≤ (x : Int)) = false := decide_eq_false (by omega)
            have e90 : decide ((x : Int) ≤ 90) = true := decide_eq_true (by omega)
            have e48 : decide ((48 : Int) ≤ (x : Int)) = true := decide_eq_true (by omega)
            have e57 : decide ((x : Int) ≤ 57) = true := decide_eq_true (by omega)
            have e43 : ((x : Int) == 43) = false := beq_false_of_ne (by omega)
            have e47 : ((x : Int) == 47) = false := beq_false_of_ne (by omega)
            clear hc
            clear HST HSY
            go_wp2
            go_round
            case rel => exact ⟨k + 1, by omega, by go_num, bool_num HR.out.symm⟩
            case measure => simp [intOf]; omega
          · have HR : Hid (plainTo cs (k + 1) = false) := Lib.hid (by
              rw [HST.out, HSY.out]
              simp only [Bool.or_eq_false_iff, decide_eq_false_iff_not]
              omega)
            have e97 : decide ((97 : Int) ≤ (x : Int)) = false := decide_eq_false (by omega)
            have e122 : decide ((x : Int) ≤ 122) = true := decide_eq_true (by omega)
            have e65 : decide ((65 : Int) ≤ (x : Int)) = false := decide_eq_false (by omega)
            have e90 : decide ((x : Int) ≤ 90) = true := decide_eq_true (by omega)
            have e48 : decide ((48 : Int) ≤ (x : Int)) = true := decide_eq_true (by omega)
            have e57 : decide ((x : Int) ≤ 57) = false := decide_eq_false (by omega)
            have e43 : ((x : Int) == 43) = false := beq_false_of_ne (by omega)
            have e47 : ((x : Int) == 47) = false := beq_false_of_ne (by omega)
            clear hc
            clear HST HSY
            go_wp2
            go_round
            case rel => exact ⟨k + 1, by omega, by go_num, bool_num HR.out.symm⟩
            case measure => simp [intOf]; omega
          · have HR : Hid (plainTo cs (k + 1) = true) := Lib.hid (by
              rw [HST.out, HSY.out]
              simp only [Bool.or_eq_true, decide_eq_true_eq]
              omega)
            have e97 : decide ((97 : Int) ≤ (x : Int)) = false := decide_eq_false (by omega)
            have e122 : decide ((x : Int) ≤ 122) = true := decide_eq_true (by omega)
            have e65 : decide ((65 : Int) ≤ (x : Int)) = true := decide_eq_true (by omega)
            have e90 : decide ((x : Int) ≤ 90) = true := decide_eq_true (by omega)
            have e48 : decide ((48 : Int) ≤ (x : Int)) = true := decide_eq_true (by omega)
            have e57 : decide ((x : Int) ≤ 57) = false := decide_eq_false (by omega)
            have e43 : ((x : Int) == 43) = false := beq_false_of_ne (by omega)
            have e47 : ((x : Int) == 47) = false := beq_false_of_ne (by omega)
            clear hc
            clear HST HSY
            go_wp2
            go_round
            case rel => exact ⟨k + 1, by omega, by go_num, bool_num HR.out.symm⟩
            case measure => simp [intOf]; omega
          · have HR : Hid (plainTo cs (k + 1) = false) := Lib.hid (by
              rw [HST.out, HSY.out]
              simp only [Bool.or_eq_false_iff, decide_eq_false_iff_not]
              omega)
            have e97 : decide ((97 : Int) ≤ (x : Int)) = false := decide_eq_false (by omega)
            have e122 : decide ((x : Int) ≤ 122) = true := decide_eq_true (by omega)
            have e65 : decide ((65 : Int) ≤ (x : Int)) = true := decide_eq_true (by omega)
            have e90 : decide ((x : Int) ≤ 90) = false := decide_eq_false (by omega)
            have e48 : decide ((48 : Int) ≤ (x : Int)) = true := decide_eq_true (by omega)
            have e57 : decide ((x : Int) ≤ 57) = false := decide_eq_false (by omega)
            have e43 : ((x : Int) == 43) = false := beq_false_of_ne (by omega)
            have e47 : ((x : Int) == 47) = false := beq_false_of_ne (by omega)
            clear hc
            clear HST HSY
            go_wp2
            go_round
            case rel => exact ⟨k + 1, by omega, by go_num, bool_num HR.out.symm⟩
            case measure => simp [intOf]; omega
          · have HR : Hid (plainTo cs (k + 1) = true) := Lib.hid (by
              rw [HST.out, HSY.out]
              simp only [Bool.or_eq_true, decide_eq_true_eq]
              omega)
            have e97 : decide ((97 : Int) ≤ (x : Int)) = true := decide_eq_true (by omega)
            have e122 : decide ((x : Int) ≤ 122) = true := decide_eq_true (by omega)
            have e65 : decide ((65 : Int) ≤ (x : Int)) = true := decide_eq_true (by omega)
            have e90 : decide ((x : Int) ≤ 90) = false := decide_eq_false (by omega)
            have e48 : decide ((48 : Int) ≤ (x : Int)) = true := decide_eq_true (by omega)
            have e57 : decide ((x : Int) ≤ 57) = false := decide_eq_false (by omega)
            have e43 : ((x : Int) == 43) = false := beq_false_of_ne (by omega)
            have e47 : ((x : Int) == 47) = false := beq_false_of_ne (by omega)
            clear hc
            clear HST HSY
            go_wp2
            go_round
            case rel => exact ⟨k + 1, by omega, by go_num, bool_num HR.out.symm⟩
            case measure => simp [intOf]; omega
          · have HR : Hid (plainTo cs (k + 1) = false) := Lib.hid (by
              rw [HST.out, HSY.out]
              simp only [Bool.or_eq_false_iff, decide_eq_false_iff_not]
              omega)
            have e97 : decide ((97 : Int) ≤ (x : Int)) = true := decide_eq_true (by omega)
            have e122 : decide ((x : Int) ≤ 122) = false := decide_eq_false (by omega)
            have e65 : decide ((65 : Int) ≤ (x : Int)) = true := decide_eq_true (by omega)
            have e90 : decide ((x : Int) ≤ 90) = false := decide_eq_false (by omega)
            have e48 : decide ((48 : Int) ≤ (x : Int)) = true := decide_eq_true (by omega)
            have e57 : decide ((x : Int) ≤ 57) = false := decide_eq_false (by omega)
            have e43 : ((x : Int) == 43) = false := beq_false_of_ne (by omega)
            have e47 : ((x : Int) == 47) = false := beq_false_of_ne (by omega)
            clear hc
            clear HST HSY
            go_wp2
            go_round
            case rel => exact ⟨k + 1, by omega, by go_num, bool_num HR.out.symm⟩
            case measure => simp [intOf]; omega
      · obtain rfl : k = cs.length := by omega
        rw [HPL.out]
        go_wp2
        go_ret
        exact ⟨rfl, HB2.out⟩
end Go.Proofs.YtcpifencjmlhaaaDoor.B64
