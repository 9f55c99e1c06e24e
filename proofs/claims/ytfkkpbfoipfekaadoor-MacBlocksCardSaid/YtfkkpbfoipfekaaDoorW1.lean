/-
  What the small functions of package sha compute: a turn to the right, the xor of three turns, the xor of two turns and a shift: each returns the number of the plain mathematics and leaves the world as it was.
-/
import Derived.Test.YtfkkpbfoipfekaaDoorProg
import Derived.Test.YtfkkpbfoipfekaaDoorMath
import Derived.WalkKit
import Derived.WalkSpells
import Derived.WalkLawsBesides
import Derived.Lib.Hide
namespace Go.Proofs.YtfkkpbfoipfekaaDoor
open Go.RowKit
theorem and31 : ∀ k : Fin 32, 1 ≤ k.val → bits .and .u64 (IntKind.u64.wrap (-(k.val:Int))) 31 = ((32 - k.val : Nat) : Int) := by decide +kernel
theorem ret_num {k : IntKind} {a b : Int} (h : a = b) : Ending.returned (.int k a) = .returned (.int k b) := by rw [h]
theorem rot_num (x k : Nat) (hx : x < 4294967296) (hk2 : k ≤ 31) : bits BinOp.or IntKind.u32 ((x : Int) * 2 ^ (32 - k) % 4294967296) ((x : Int) / 2 ^ k) = (Sha.rot k x : Int) := by
  have e1 : ((x : Int) * 2 ^ (32 - k) % 4294967296) = ((x * 2 ^ (32 - k) % Sha.M : Nat) : Int) := by
    rw [Int.natCast_emod, Int.natCast_mul, Int.natCast_pow]; rfl
  have e2 : ((x : Int) / 2 ^ k) = ((x / 2 ^ k : Nat) : Int) := by
    rw [Int.natCast_ediv, Int.natCast_pow]; rfl
  rw [e1, e2, u32_or_nat _ _ (Sha.modM _) (Sha.div_lt k hx), Sha.rot_or (by omega) hx]
set_option maxHeartbeats 400000 in
theorem rot_any (x : Nat) (k : Nat) (w : World) (hx : x < 4294967296) (hk : 1 ≤ k) (hk2 : k ≤ 31) :
    Calls Tryd.prog 36 #[.int .u32 x, .int .i64 (-(k:Int))] w fun e w' => e = .returned (.int .u32 (Sha.rot k x : Nat)) ∧ w = w' := by
  have hr := Lib.hid (rot_num x k hx hk2)
  have hb := and31 ⟨k, by omega⟩ hk
  simp only at hb
  have h2 : (32 - ((32 - k : Nat) : Int)) = (k : Int) := by omega
  go_enter Tryd.func36, Tryd.ntmps36
  go_wp2
  go_ret
  exact ⟨ret_num hr.out, rfl⟩
set_option maxHeartbeats 400000 in
theorem mix_any (x i j l : Nat) (w : World) (hx : x < 4294967296) (hi : 1 ≤ i) (hi2 : i ≤ 31) (hj : 1 ≤ j) (hj2 : j ≤ 31) (hl : 1 ≤ l) (hl2 : l ≤ 31) :
    Calls Tryd.prog 34 #[.int .u32 x, .int .i64 i, .int .i64 j, .int .i64 l] w fun e w' => e = .returned (.int .u32 (Sha.mix i j l x : Nat)) ∧ w = w' := by
  go_enter Tryd.func34, Tryd.ntmps34
  go_wp2_with fail
  refine (rot_any x i _ hx hi hi2).mono ?_
  rintro e w' ⟨rfl, rfl⟩
  go_wp2_with fail
  refine (rot_any x j _ hx hj hj2).mono ?_
  rintro e w' ⟨rfl, rfl⟩
  go_wp2_with fail
  refine (rot_any x l _ hx hl hl2).mono ?_
  rintro e w' ⟨rfl, rfl⟩
  go_wp2
  go_ret
  refine ⟨ret_num ?_, rfl⟩
  have b1 := Sha.rot_lt (k := i) (by omega) hx
  have b2 := Sha.rot_lt (k := j) (by omega) hx
  have b3 := Sha.rot_lt (k := l) (by omega) hx
  rw [u32_xor_nat _ _ b1 b2, u32_xor_nat _ _ (Sha.xor_lt b1 b2) b3]
  rfl
set_option maxHeartbeats 400000 in
theorem mixShift_any (x i j l : Nat) (w : World) (hx : x < 4294967296) (hi : 1 ≤ i) (hi2 : i ≤ 31) (hj : 1 ≤ j) (hj2 : j ≤ 31) (hl : 1 ≤ l) (hl2 : l ≤ 31) :
    Calls Tryd.prog 35 #[.int .u32 x, .int .i64 i, .int .i64 j, .int .u64 l] w fun e w' => e = .returned (.int .u32 (Sha.mixShift i j l x : Nat)) ∧ w = w' := by
  go_enter Tryd.func35, Tryd.ntmps35
  go_wp2_with fail
  refine (rot_any x i _ hx hi hi2).mono ?_
  rintro e w' ⟨rfl, rfl⟩
  go_wp2_with fail
  refine (rot_any x j _ hx hj hj2).mono ?_
  rintro e w' ⟨rfl, rfl⟩
  go_wp2
  go_ret
  refine ⟨ret_num ?_, rfl⟩
  have b1 := Sha.rot_lt (k := i) (by omega) hx
  have b2 := Sha.rot_lt (k := j) (by omega) hx
  have e2 : ((x : Int) / 2 ^ l) = ((x / 2 ^ l : Nat) : Int) := by
    rw [Int.natCast_ediv, Int.natCast_pow]; rfl
  rw [u32_xor_nat _ _ b1 b2, e2, u32_xor_nat _ _ (Sha.xor_lt b1 b2) (Sha.div_lt l hx)]
  rfl
/- The four uses, with their counts as numerals. -/
theorem mix_e (x : Nat) (w : World) (hx : x < 4294967296) :
    Calls Tryd.prog 34 #[.int .u32 x, .int .i64 6, .int .i64 11, .int .i64 25] w fun e w' => e = .returned (.int .u32 (Sha.mix 6 11 25 x : Nat)) ∧ w = w' :=
  mix_any x 6 11 25 w hx (by decide) (by decide) (by decide) (by decide) (by decide) (by decide)
theorem mix_a (x : Nat) (w : World) (hx : x < 4294967296) :
    Calls Tryd.prog 34 #[.int .u32 x, .int .i64 2, .int .i64 13, .int .i64 22] w fun e w' => e = .returned (.int .u32 (Sha.mix 2 13 22 x : Nat)) ∧ w = w' :=
  mix_any x 2 13 22 w hx (by decide) (by decide) (by decide) (by decide) (by decide) (by decide)
theorem mixShift_1 (x : Nat) (w : World) (hx : x < 4294967296) :
    Calls Tryd.prog 35 #[.int .u32 x, .int .i64 17, .int .i64 19, .int .u64 10] w fun e w' => e = .returned (.int .u32 (Sha.mixShift 17 19 10 x : Nat)) ∧ w = w' :=
  mixShift_any x 17 19 10 w hx (by decide) (by decide) (by decide) (by decide) (by decide) (by decide)
theorem mixShift_0 (x : Nat) (w : World) (hx : x < 4294967296) :
    Calls Tryd.prog 35 #[.int .u32 x, .int .i64 7, .int .i64 18, .int .u64 3] w fun e w' => e = .returned (.int .u32 (Sha.mixShift 7 18 3 x : Nat)) ∧ w = w' :=
  mixShift_any x 7 18 3 w hx (by decide) (by decide) (by decide) (by decide) (by decide) (by decide)
end Go.Proofs.YtfkkpbfoipfekaaDoor
