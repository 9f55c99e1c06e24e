/-
  What the document's small functions compute: the remainder by 2^32, a turn to the right, four bytes as a number.
-/
import Derived.Test.YtfkkpbfoipfekaaDoorReg4
namespace Go.Proofs.YtfkkpbfoipfekaaDoor
open Go.RowKit
set_option maxHeartbeats 400000 in
theorem top_any (x : Nat) (w : World) (hx : x < 4611686018427387904) : Calls Tryd.prog 27 #[.int .i64 (x : Int)] w fun e w' => e = .returned (.int .i64 ((x % Sha.M : Nat) : Int)) ∧ w = w' := by
  have HE : Hid ((x : Int) % 4294967296 = ((x % Sha.M : Nat) : Int)) := Lib.hid (by unfold Sha.M; omega)
  go_enter Tryd.func27, Tryd.ntmps27
  go_wp2
  go_ret
  exact ⟨ret_num HE.out, rfl⟩
theorem rot_lit7 (x : Nat) : (x : Int) / 128 + (x : Int) % 128 * 33554432 = ((Sha.rot 7 x : Nat) : Int) := by
  have e : Sha.rot 7 x = x / 128 + x % 128 * 33554432 := rfl
  rw [e]; omega
set_option maxHeartbeats 400000 in
theorem turn_7 (x : Nat) (w : World) (hx : x < 4294967296) : Calls Tryd.prog 28 #[.int .i64 (x : Int), .int .i64 7] w fun e w' => e = .returned (.int .i64 ((Sha.rot 7 x : Nat) : Int)) ∧ ∃ k, w' = w.drewN k := by
  have HE := Lib.hid (rot_lit7 x)
  go_enter Tryd.func28, Tryd.ntmps28
  go_wp2
  go_quiet (fail)
  go_wp2
  go_ret
  exact ⟨ret_num HE.out, _, rfl⟩
theorem rot_lit18 (x : Nat) : (x : Int) / 262144 + (x : Int) % 262144 * 16384 = ((Sha.rot 18 x : Nat) : Int) := by
  have e : Sha.rot 18 x = x / 262144 + x % 262144 * 16384 := rfl
  rw [e]; omega
set_option maxHeartbeats 400000 in
theorem turn_18 (x : Nat) (w : World) (hx : x < 4294967296) : Calls Tryd.prog 28 #[.int .i64 (x : Int), .int .i64 18] w fun e w' => e = .returned (.int .i64 ((Sha.rot 18 x : Nat) : Int)) ∧ ∃ k, w' = w.drewN k := by
  have HE := Lib.hid (rot_lit18 x)
  go_enter Tryd.func28, Tryd.ntmps28
  go_wp2
  go_quiet (fail)
  go_wp2
  go_ret
  exact ⟨ret_num HE.out, _, rfl⟩
theorem rot_lit17 (x : Nat) : (x : Int) / 131072 + (x : Int) % 131072 * 32768 = ((Sha.rot 17 x : Nat) : Int) := by
  have e : Sha.rot 17 x = x / 131072 + x % 131072 * 32768 := rfl
  rw [e]; omega
set_option maxHeartbeats 400000 in
theorem turn_17 (x : Nat) (w : World) (hx : x < 4294967296) : Calls Tryd.prog 28 #[.int .i64 (x : Int), .int .i64 17] w fun e w' => e = .returned (.int .i64 ((Sha.rot 17 x : Nat) : Int)) ∧ ∃ k, w' = w.drewN k := by
  have HE := Lib.hid (rot_lit17 x)
  go_enter Tryd.func28, Tryd.ntmps28
  go_wp2
  go_quiet (fail)
  go_wp2
  go_ret
  exact ⟨ret_num HE.out, _, rfl⟩
theorem rot_lit19 (x : Nat) : (x : Int) / 524288 + (x : Int) % 524288 * 8192 = ((Sha.rot 19 x : Nat) : Int) := by
  have e : Sha.rot 19 x = x / 524288 + x % 524288 * 8192 := rfl
  rw [e]; omega
set_option maxHeartbeats 400000 in
theorem turn_19 (x : Nat) (w : World) (hx : x < 4294967296) : Calls Tryd.prog 28 #[.int .i64 (x : Int), .int .i64 19] w fun e w' => e = .returned (.int .i64 ((Sha.rot 19 x : Nat) : Int)) ∧ ∃ k, w' = w.drewN k := by
  have HE := Lib.hid (rot_lit19 x)
  go_enter Tryd.func28, Tryd.ntmps28
  go_wp2
  go_quiet (fail)
  go_wp2
  go_ret
  exact ⟨ret_num HE.out, _, rfl⟩
theorem rot_lit6 (x : Nat) : (x : Int) / 64 + (x : Int) % 64 * 67108864 = ((Sha.rot 6 x : Nat) : Int) := by
  have e : Sha.rot 6 x = x / 64 + x % 64 * 67108864 := rfl
  rw [e]; omega
set_option maxHeartbeats 400000 in
theorem turn_6 (x : Nat) (w : World) (hx : x < 4294967296) : Calls Tryd.prog 28 #[.int .i64 (x : Int), .int .i64 6] w fun e w' => e = .returned (.int .i64 ((Sha.rot 6 x : Nat) : Int)) ∧ ∃ k, w' = w.drewN k := by
  have HE := Lib.hid (rot_lit6 x)
  go_enter Tryd.func28, Tryd.ntmps28
  go_wp2
  go_quiet (fail)
  go_wp2
  go_ret
  exact ⟨ret_num HE.out, _, rfl⟩
theorem rot_lit11 (x : Nat) : (x : Int) / 2048 + (x : Int) % 2048 * 2097152 = ((Sha.rot 11 x : Nat) : Int) := by
  have e : Sha.rot 11 x = x / 2048 + x % 2048 * 2097152 := rfl
  rw [e]; omega
set_option maxHeartbeats 400000 in
theorem turn_11 (x : Nat) (w : World) (hx : x < 4294967296) : Calls Tryd.prog 28 #[.int .i64 (x : Int), .int .i64 11] w fun e w' => e = .returned (.int .i64 ((Sha.rot 11 x : Nat) : Int)) ∧ ∃ k, w' = w.drewN k := by
  have HE := Lib.hid (rot_lit11 x)
  go_enter Tryd.func28, Tryd.ntmps28
  go_wp2
  go_quiet (fail)
  go_wp2
  go_ret
  exact ⟨ret_num HE.out, _, rfl⟩
theorem rot_lit25 (x : Nat) : (x : Int) / 33554432 + (x : Int) % 33554432 * 128 = ((Sha.rot 25 x : Nat) : Int) := by
  have e : Sha.rot 25 x = x / 33554432 + x % 33554432 * 128 := rfl
  rw [e]; omega
set_option maxHeartbeats 400000 in
theorem turn_25 (x : Nat) (w : World) (hx : x < 4294967296) : Calls Tryd.prog 28 #[.int .i64 (x : Int), .int .i64 25] w fun e w' => e = .returned (.int .i64 ((Sha.rot 25 x : Nat) : Int)) ∧ ∃ k, w' = w.drewN k := by
  have HE := Lib.hid (rot_lit25 x)
  go_enter Tryd.func28, Tryd.ntmps28
  go_wp2
  go_quiet (fail)
  go_wp2
  go_ret
  exact ⟨ret_num HE.out, _, rfl⟩
theorem rot_lit2 (x : Nat) : (x : Int) / 4 + (x : Int) % 4 * 1073741824 = ((Sha.rot 2 x : Nat) : Int) := by
  have e : Sha.rot 2 x = x / 4 + x % 4 * 1073741824 := rfl
  rw [e]; omega
set_option maxHeartbeats 400000 in
theorem turn_2 (x : Nat) (w : World) (hx : x < 4294967296) : Calls Tryd.prog 28 #[.int .i64 (x : Int), .int .i64 2] w fun e w' => e = .returned (.int .i64 ((Sha.rot 2 x : Nat) : Int)) ∧ ∃ k, w' = w.drewN k := by
  have HE := Lib.hid (rot_lit2 x)
  go_enter Tryd.func28, Tryd.ntmps28
  go_wp2
  go_quiet (fail)
  go_wp2
  go_ret
  exact ⟨ret_num HE.out, _, rfl⟩
theorem rot_lit13 (x : Nat) : (x : Int) / 8192 + (x : Int) % 8192 * 524288 = ((Sha.rot 13 x : Nat) : Int) := by
  have e : Sha.rot 13 x = x / 8192 + x % 8192 * 524288 := rfl
  rw [e]; omega
set_option maxHeartbeats 400000 in
theorem turn_13 (x : Nat) (w : World) (hx : x < 4294967296) : Calls Tryd.prog 28 #[.int .i64 (x : Int), .int .i64 13] w fun e w' => e = .returned (.int .i64 ((Sha.rot 13 x : Nat) : Int)) ∧ ∃ k, w' = w.drewN k := by
  have HE := Lib.hid (rot_lit13 x)
  go_enter Tryd.func28, Tryd.ntmps28
  go_wp2
  go_quiet (fail)
  go_wp2
  go_ret
  exact ⟨ret_num HE.out, _, rfl⟩
theorem rot_lit22 (x : Nat) : (x : Int) / 4194304 + (x : Int) % 4194304 * 1024 = ((Sha.rot 22 x : Nat) : Int) := by
  have e : Sha.rot 22 x = x / 4194304 + x % 4194304 * 1024 := rfl
  rw [e]; omega
set_option maxHeartbeats 400000 in
theorem turn_22 (x : Nat) (w : World) (hx : x < 4294967296) : Calls Tryd.prog 28 #[.int .i64 (x : Int), .int .i64 22] w fun e w' => e = .returned (.int .i64 ((Sha.rot 22 x : Nat) : Int)) ∧ ∃ k, w' = w.drewN k := by
  have HE := Lib.hid (rot_lit22 x)
  go_enter Tryd.func28, Tryd.ntmps28
  go_wp2
  go_quiet (fail)
  go_wp2
  go_ret
  exact ⟨ret_num HE.out, _, rfl⟩
end Go.Proofs.YtfkkpbfoipfekaaDoor
