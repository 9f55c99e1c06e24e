/-
  What the document's Sum computes: the same checksum, as an int; it leaves the world as it was.
-/
import Derived.Test.YtaoaegkfejlgkaaC4
namespace Go.Proofs.Ytaoaegkfejlgkaa
open Go.RowKit
theorem xor64 (a b : Nat) (ha : a < 4294967296) (hb : b < 4294967296) : bits .xor .i64 (a : Int) (b : Int) = ((a ^^^ b : Nat) : Int) := by
  have hx : a ^^^ b < 4294967296 := Nat.xor_lt_two_pow (n := 32) ha hb
  have o : ∀ n : Nat, n < 4294967296 → (BitVec.ofInt 64 (n : Int)).toNat = n := fun n hn => by
    rw [BitVec.ofInt_natCast, BitVec.toNat_ofNat]; exact Nat.mod_eq_of_lt (by omega)
  show IntKind.i64.wrap ((BitVec.ofInt 64 (a : Int) ^^^ BitVec.ofInt 64 (b : Int)).toNat : Int) = _
  rw [BitVec.toNat_xor, o a ha, o b hb, IntKind.wrap_i64]
  omega
theorem mod_yes {s : Nat} (h1 : s % 2 = 1) : ((s : Int) % 2 == 1) = true := by
  have : (s : Int) % 2 = 1 := by omega
  rw [this]; rfl
theorem mod_no {s : Nat} (h1 : s % 2 = 0) : ((s : Int) % 2 == 1) = false := by
  have : (s : Int) % 2 = 0 := by omega
  rw [this]; rfl
theorem step_yes64 {s : Nat} (h : s < 4294967296) (h1 : s % 2 = 1) : bits .xor .i64 ((s : Int) / 2) 3988292384 = ((Crc.step s : Nat) : Int) := by
  have e := xor64 (s / 2) 3988292384 (by omega) (by decide)
  unfold Crc.step
  rw [if_pos h1]
  exact e
set_option maxRecDepth 100000
set_option maxHeartbeats 1000000 in
theorem ref_any (w : World) (B : Nat) (A : Option Addr) (c : Nat) (bs : List Nat) (hR : RdB w B A bs) (hb : Crc.Bs bs) (hm : bs.length ≤ 9223372036854775807) :
    Calls Try.prog 49 #[.slice A bs.length c] w fun e w' => e = .returned (.int .i64 (Crc.sum bs : Nat)) ∧ w = w' := by
  have HR := Lib.hid hR
  have HBs := Lib.hid hb
  clear hR hb
  go_enter Try.func49, Try.ntmps49
  go_wp2
  go_loop [3, 4] (fun v i => ∃ k : Nat, k ≤ bs.length ∧ i = .int .i64 k ∧ v = .int .i64 (Crc.run 4294967295 (bs.take k) : Nat)) (fun _ i => bs.length - (intOf i).toNat)
  case atStart => exact ⟨0, by omega, rfl, by rw [List.take_zero, Crc.run_nil]; rfl⟩
  case round =>
    obtain ⟨k, hk, rfl, rfl⟩ := hrel
    have hst := Crc.run_lt (bs.take k) (show 4294967295 < 4294967296 by decide) (HBs.out.take k)
    by_cases hlt : k < bs.length
    · obtain ⟨ad, rfl, hadb, hcs⟩ := HR.out (by omega)
      have hc1 : w.cell? (ad.add k) = some (.int .u8 (bs.getD k 0 : Nat)) := hcs k _ (vals_get _ _ _ hlt)
      have hx := HBs.out.getD k
      have HS := Lib.hid (Crc.run_snoc 4294967295 bs k hlt)
      clear hcs
      generalize Crc.run 4294967295 (bs.take k) = st at *
      generalize bs.getD k 0 = x at *
      have hxor := xor64 st x hst (by omega)
      have hst2 := Crc.xor_byte hst hx
      go_wp2
      clear hxor
      generalize st ^^^ x = t0 at *
      go_loop [3, 5] (fun v i => ∃ j : Nat, j ≤ 8 ∧ i = .int .i64 j ∧ v = .int .i64 (Crc.steps j t0 : Nat)) (fun _ i => 8 - (intOf i).toNat)
      case atStart => exact ⟨0, by omega, rfl, rfl⟩
      case round =>
        obtain ⟨j, hj, rfl, rfl⟩ := hrel
        have hs := Crc.steps_lt j hst2
        by_cases hj8 : j < 8
        · have HN := Lib.hid (Crc.steps_succ j t0)
          generalize Crc.steps j t0 = s at *
          rcases Nat.mod_two_eq_zero_or_one s with h0 | h1
          · have HS2 := Lib.hid (step_no h0)
            have ht := mod_no h0
            clear h0
            go_wp2
            go_round
            case rel => exact ⟨j + 1, by omega, by go_num, by rw [HN.out]; exact int_num HS2.out⟩
            case measure => simp [intOf]; omega
          · have HS2 := Lib.hid (step_yes64 hs h1)
            have ht := mod_yes h1
            clear h1
            go_wp2
            go_round
            case rel => exact ⟨j + 1, by omega, by go_num, by rw [HN.out]; exact int_num HS2.out⟩
            case measure => simp [intOf]; omega
        · obtain rfl : j = 8 := by omega
          clear hj8 hj
          generalize he : Crc.steps 8 t0 = s at *
          have HE := Lib.hid he
          clear he
          go_wp2
          go_round
          case rel => exact ⟨k + 1, by omega, by go_num, by rw [HS.out]⟩
          case measure => simp [intOf]; omega
    · obtain rfl : k = bs.length := by omega
      rw [List.take_length] at hst ⊢
      have HE : Hid (((4294967295 : Int) - (Crc.run 4294967295 bs : Nat)) = (Crc.sum bs : Nat)) := Lib.hid (by unfold Crc.sum; omega)
      generalize Crc.run 4294967295 bs = st at *
      go_wp2
      go_ret
      exact ⟨ret_num HE.out, rfl⟩
end Go.Proofs.Ytaoaegkfejlgkaa
