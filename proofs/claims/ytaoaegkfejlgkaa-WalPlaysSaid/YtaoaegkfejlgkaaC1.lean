/-
  What shiftByte computes: eight shifts; it leaves the world as it was.
-/
import Derived.Test.YtaoaegkfejlgkaaProg
import Derived.Test.YtaoaegkfejlgkaaMath
import Derived.WalkKit
import Derived.WalkSpells
import Derived.WalkLawsBesides
import Derived.Lib.Hide
namespace Go.Proofs.Ytaoaegkfejlgkaa
open Go.RowKit
theorem ret_num {k : IntKind} {a b : Int} (h : a = b) : Ending.returned (.int k a) = .returned (.int k b) := by rw [h]
theorem and_one (s : Nat) (h : s < 4294967296) : bits .and .u32 (s : Int) 1 = ((s % 2 : Nat) : Int) := by
  have := u32_and_nat s 1 h (by decide)
  rw [Nat.and_one_is_mod] at this
  exact this
theorem and_yes {s : Nat} (h : s < 4294967296) (h1 : s % 2 = 1) : (bits .and .u32 (s : Int) 1 == 1) = true := by
  rw [and_one s h, h1]; rfl
theorem and_no {s : Nat} (h : s < 4294967296) (h1 : s % 2 = 0) : (bits .and .u32 (s : Int) 1 == 1) = false := by
  rw [and_one s h, h1]; rfl
theorem step_yes {s : Nat} (h : s < 4294967296) (h1 : s % 2 = 1) : bits .xor .u32 ((s : Int) / 2) 3988292384 = ((Crc.step s : Nat) : Int) := by
  have e := u32_xor_nat (s / 2) 3988292384 (by omega) (by decide)
  unfold Crc.step
  rw [if_pos h1]
  exact e
theorem step_no {s : Nat} (h1 : s % 2 = 0) : (s : Int) / 2 = ((Crc.step s : Nat) : Int) := by
  unfold Crc.step
  rw [if_neg (by omega)]
  rfl
theorem int_num {k : IntKind} {a b : Int} (h : a = b) : Value.int k a = .int k b := by rw [h]
set_option maxHeartbeats 400000 in
theorem shiftByte_any (x : Nat) (w : World) (hx : x < 4294967296) :
    Calls Try.prog 59 #[.int .u32 x] w fun e w' => e = .returned (.int .u32 (Crc.steps 8 x : Nat)) ∧ w = w' := by
  go_enter Try.func59, Try.ntmps59
  go_wp2
  go_loop [0, 4] (fun v i => ∃ k : Nat, k ≤ 8 ∧ i = .int .i64 k ∧ v = .int .u32 (Crc.steps k x : Nat)) (fun _ i => 8 - (intOf i).toNat)
  case atStart => exact ⟨0, by omega, rfl, rfl⟩
  case round =>
    obtain ⟨k, hk, rfl, rfl⟩ := hrel
    have hs := Crc.steps_lt k hx
    by_cases hlt : k < 8
    · have HN := Lib.hid (Crc.steps_succ k x)
      generalize Crc.steps k x = s at *
      rcases Nat.mod_two_eq_zero_or_one s with h0 | h1
      · have HS := Lib.hid (step_no h0)
        have ht := and_no hs h0
        clear h0
        go_wp2
        go_round
        case rel => exact ⟨k + 1, by omega, by go_num, by rw [HN.out]; exact int_num HS.out⟩
        case measure => simp [intOf]; omega
      · have HS := Lib.hid (step_yes hs h1)
        have ht := and_yes hs h1
        clear h1
        go_wp2
        go_round
        case rel => exact ⟨k + 1, by omega, by go_num, by rw [HN.out]; exact int_num HS.out⟩
        case measure => simp [intOf]; omega
    · obtain rfl : k = 8 := by omega
      clear hlt hk
      generalize he : Crc.steps 8 x = s at *
      have HE := Lib.hid he
      clear he
      go_wp2
      go_ret
      exact ⟨ret_num (by rw [HE.out]), rfl⟩
end Go.Proofs.Ytaoaegkfejlgkaa
