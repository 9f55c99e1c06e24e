/-
  What the small functions over one byte answer, the program's and the document's: all leave the world as it was.
-/
import Derived.Test.YtchlikigjijdkaaDoorTMem
namespace Go.Proofs.YtchlikigjijdkaaDoor.Txt
open Go.RowKit
theorem plain_dec (b : UInt8) : plain b = decide ((65 ≤ b.toNat ∧ b.toNat ≤ 90) ∨ (97 ≤ b.toNat ∧ b.toNat ≤ 122) ∨ (48 ≤ b.toNat ∧ b.toNat ≤ 57) ∨ b.toNat = 45 ∨ b.toNat = 46 ∨ b.toNat = 95 ∨ b.toNat = 42) := by
  unfold plain
  rw [Bool.eq_iff_iff]
  simp only [Bool.or_eq_true, Bool.and_eq_true, decide_eq_true_eq]
  omega
set_option maxHeartbeats 1000000 in
theorem isPlain_any (b : UInt8) (w : World) :
    Calls Tryd.prog 37 #[.int .u8 (b.toNat : Nat)] w fun e w' => e = .returned (.bool (plain b)) ∧ w = w' := by
  have HE := Lib.hid (plain_dec b)
  generalize plain b = r at *
  have hb : b.toNat < 256 := b.toNat_lt
  generalize b.toNat = n at *
  go_enter Tryd.func37, Tryd.ntmps37
  go_wp2
  all_goals go_ret
  all_goals refine ⟨ret_bool ?_, rfl⟩
  all_goals rw [HE.out]
  all_goals symm
  all_goals simp only [decide_eq_true_eq, decide_eq_false_iff_not]
  all_goals clear HE
  all_goals (try simp only [beq_iff_eq, beq_eq_false_iff_ne, ne_eq] at *)
  all_goals omega
set_option maxHeartbeats 2000000 in
theorem free_any (b : UInt8) (w : World) :
    Calls Tryd.prog 27 #[.int .u8 (b.toNat : Nat)] w fun e w' => e = .returned (.bool (plain b)) ∧ w = w' := by
  have HE := Lib.hid (plain_dec b)
  generalize plain b = r at *
  have hb : b.toNat < 256 := b.toNat_lt
  generalize b.toNat = n at *
  go_enter Tryd.func27, Tryd.ntmps27
  go_wp2
  all_goals go_ret
  all_goals refine ⟨ret_bool ?_, rfl⟩
  all_goals rw [HE.out]
  all_goals symm
  all_goals clear HE
  all_goals (try simp only [beq_iff_eq, beq_eq_false_iff_ne, ne_eq] at *)
  all_goals rw [Bool.eq_iff_iff]
  all_goals simp only [decide_eq_true_eq, Bool.or_eq_true, beq_iff_eq, iff_true]
  all_goals omega
set_option maxHeartbeats 2000000 in
theorem hexValue_any (b : UInt8) (w : World) :
    Calls Tryd.prog 43 #[.int .u8 (b.toNat : Nat)] w fun e w' => e = .returned (.int .i64 (hv b)) ∧ w = w' := by
  have HE : Hid (hv b = _) := Lib.hid (show hv b = if 48 ≤ b.toNat ∧ b.toNat ≤ 57 then (b.toNat : Int) - 48 else if 65 ≤ b.toNat ∧ b.toNat ≤ 70 then (b.toNat : Int) - 55 else if 97 ≤ b.toNat ∧ b.toNat ≤ 102 then (b.toNat : Int) - 87 else -1 from rfl)
  generalize hv b = r at *
  have hb : b.toNat < 256 := b.toNat_lt
  generalize b.toNat = n at *
  go_enter Tryd.func43, Tryd.ntmps43
  go_wp2
  all_goals go_ret
  all_goals refine ⟨ret_num ?_, rfl⟩
  all_goals rw [HE.out]
  all_goals clear HE
  all_goals split
  all_goals (try split)
  all_goals (try split)
  all_goals omega
set_option maxHeartbeats 2000000 in
theorem digit_any (b : UInt8) (w : World) :
    Calls Tryd.prog 28 #[.int .u8 (b.toNat : Nat)] w fun e w' => e = .returned (.int .i64 (hv b)) ∧ w = w' := by
  have HE : Hid (hv b = _) := Lib.hid (show hv b = if 48 ≤ b.toNat ∧ b.toNat ≤ 57 then (b.toNat : Int) - 48 else if 65 ≤ b.toNat ∧ b.toNat ≤ 70 then (b.toNat : Int) - 55 else if 97 ≤ b.toNat ∧ b.toNat ≤ 102 then (b.toNat : Int) - 87 else -1 from rfl)
  generalize hv b = r at *
  have hb : b.toNat < 256 := b.toNat_lt
  generalize b.toNat = n at *
  go_enter Tryd.func28, Tryd.ntmps28
  go_wp2
  all_goals go_ret
  all_goals refine ⟨ret_num ?_, rfl⟩
  all_goals rw [HE.out]
  all_goals clear HE
  all_goals split
  all_goals (try split)
  all_goals (try split)
  all_goals omega
end Go.Proofs.YtchlikigjijdkaaDoor.Txt
