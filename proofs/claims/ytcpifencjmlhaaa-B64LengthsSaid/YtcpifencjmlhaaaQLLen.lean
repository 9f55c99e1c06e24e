/-
  The walk of the statement B64Lengths: whatever the bytes and the number it returns true, and nothing that was there before has changed.
-/
import Derived.Test.YtcpifencjmlhaaaQ6
namespace Go.Proofs.Ytcpifencjmlhaaa.B64
open Go.RowKit
/-- What Length answers. -/
def lenI (n : Int) : Int := if n < 0 ∨ 1073741824 < n then 0 else (len n.toNat : Nat)
def errI (n : Int) : Int := if n < 0 ∨ 1073741824 < n then 12 else 0
theorem Length_all (n : Int) (w : World) : Calls Try.prog 12 #[.int .i64 n] w fun e w' => e = .returned (.tuple #[.int .i64 (lenI n), .int .i64 (errI n)]) ∧ w = w' := by
  unfold lenI errI
  by_cases h : n < 0 ∨ 1073741824 < n
  · rw [if_pos h, if_pos h]
    exact Length_bad n w h
  · rw [if_neg h, if_neg h]
    obtain ⟨m, rfl⟩ : ∃ m : Nat, n = (m : Int) := ⟨n.toNat, by omega⟩
    rw [Int.toNat_natCast]
    exact Length_any m w (by omega)
theorem tab3 (w : World) (i : Nat) (hi : i < 3) : (Instr.index 34 (.agg #[.int .i64 0, .int .i64 2, .int .i64 3]) (.int .i64 (i : Int))).run Try.prog w = .ok (.int .i64 (([0, 2, 3] : List Nat).getD i 0 : Nat)) w := by
  rcases (by omega : i = 0 ∨ i = 1 ∨ i = 2) with rfl | rfl | rfl <;> rfl
set_option maxRecDepth 100000
set_option maxHeartbeats 1000000 in
theorem b64Lengths_any (w : World) (A : Option Addr) (c : Nat) (bs : List Nat) (n : Int) (hR : RdB w w.heap.size A bs) (hb : Bs bs) (hm : bs.length ≤ 9223372036854775807) (hn1 : -9223372036854775808 ≤ n) (hn2 : n ≤ 9223372036854775807) :
    Calls Try.prog 5 #[.slice A bs.length c, .int .i64 n] w fun e w' => e = .returned (.bool true) ∧ Below w.heap.size w w' := by
  have HR := Lib.hid hR
  have HBs := Lib.hid hb
  clear hR hb
  go_enter Try.func5, Try.ntmps5
  go_wp2_with fail
  refine (anchor_any w).mono ?_
  rintro e w1 ⟨rfl, hb1⟩
  have HB1 := Lib.hid hb1
  have hz1 := hb1.size
  clear hb1
  go_wp2_with fail
  refine (Length_all (bs.length : Int) w1).mono ?_
  rintro e w2 ⟨rfl, rfl⟩
  have HLb : Hid (bs.length ≤ 2000 → lenI (bs.length : Int) = (len bs.length : Nat) ∧ errI (bs.length : Int) = 0) := Lib.hid fun h => by
    unfold lenI errI
    rw [if_neg (by omega), if_neg (by omega), Int.toNat_natCast]
    exact ⟨rfl, rfl⟩
  generalize lenI (bs.length : Int) = lb at *
  generalize errI (bs.length : Int) = eb at *
  go_wp2_with fail
  refine (Length_all n w1).mono ?_
  rintro e w2 ⟨rfl, rfl⟩
  have HLn : Hid ((n < 0 ∨ 1073741824 < n → lenI n = 0 ∧ errI n = 12) ∧ (¬ (n < 0 ∨ 1073741824 < n) → lenI n = (len n.toNat : Nat) ∧ errI n = 0)) := Lib.hid (by
    unfold lenI errI
    refine ⟨fun h => ?_, fun h => ?_⟩
    · rw [if_pos h, if_pos h]; exact ⟨rfl, rfl⟩
    · rw [if_neg h, if_neg h]; exact ⟨rfl, rfl⟩)
  generalize lenI n = ln at *
  generalize errI n = en at *
  by_cases hlen : bs.length ≤ 2000
  · obtain ⟨hl, rfl⟩ := HLb.out hlen
    have HE : Hid (Calls Try.prog 8 #[.slice A bs.length c] w1 fun e w' => e = .returned (.string (str (encU bs))) ∧ Below w1.heap.size w1 w') := Lib.hid (Encode_any w1 A c bs ((HR.out.below HB1.out).more hz1) HBs.out (by omega))
    have hsz : (str (encU bs)).size = len bs.length := by rw [str_size, encU_length]
    generalize str (encU bs) = se at *
    generalize len bs.length = lbs at *
    subst hl
    go_wp2_with fail
    refine HE.out.mono ?_
    rintro e w3 ⟨rfl, hb3⟩
    have HB3 := Lib.hid (HB1.out.trans (hb3.mono hz1))
    clear hb3 HE HLb
    by_cases hbad : n < 0 ∨ 1073741824 < n
    · obtain ⟨rfl, rfl⟩ := HLn.out.1 hbad
      by_cases hneg : n < 0
      · clear hbad
        go_wp2
        go_ret
        exact ⟨rfl, HB3.out⟩
      · have hbig : 1073741824 < n := by omega
        have dneg : decide (n < 0) = false := decide_eq_false hneg
        clear hbad hneg
        go_wp2
        go_ret
        exact ⟨rfl, HB3.out⟩
    · obtain ⟨hl, rfl⟩ := HLn.out.2 hbad
      obtain ⟨k, rfl⟩ : ∃ k : Nat, n = (k : Int) := ⟨n.toNat, by omega⟩
      rw [Int.toNat_natCast] at hl
      obtain ⟨tv, htv, hix⟩ : ∃ tv : Nat, (len k : Nat) = k / 3 * 4 + tv ∧ ∀ w, (Instr.index 34 (.agg #[.int .i64 0, .int .i64 2, .int .i64 3]) (.int .i64 ((k : Int) % 3))).run Try.prog w = .ok (.int .i64 (tv : Int)) w := by
        refine ⟨([0, 2, 3] : List Nat).getD (k % 3) 0, ?_, fun w => tab3 w (k % 3) (by omega)⟩
        unfold len
        rcases (by omega : k % 3 = 0 ∨ k % 3 = 1 ∨ k % 3 = 2) with h | h | h <;> rw [h] <;> rfl
      have htv2 : tv ≤ 4 := by unfold len at htv; omega
      obtain rfl : ln = (k : Int) / 3 * 4 + (tv : Int) := by rw [hl, htv]; omega
      have dneg : decide ((k : Int) < 0) = false := decide_eq_false (by omega)
      have dbig : decide ((1073741824 : Int) < (k : Int)) = false := decide_eq_false (by omega)
      have hk : k ≤ 1073741824 := by omega
      clear hl htv hbad HLn
      go_wp2
      go_ret
      exact ⟨rfl, HB3.out⟩
  · have dlen : decide ((bs.length : Int) ≤ 2000) = false := decide_eq_false (by omega)
    clear HLb
    by_cases hbad : n < 0 ∨ 1073741824 < n
    · obtain ⟨rfl, rfl⟩ := HLn.out.1 hbad
      by_cases hneg : n < 0
      · clear hbad
        go_wp2
        go_ret
        exact ⟨rfl, HB1.out⟩
      · have hbig : 1073741824 < n := by omega
        have dneg : decide (n < 0) = false := decide_eq_false hneg
        clear hbad hneg
        go_wp2
        go_ret
        exact ⟨rfl, HB1.out⟩
    · obtain ⟨hl, rfl⟩ := HLn.out.2 hbad
      obtain ⟨k, rfl⟩ : ∃ k : Nat, n = (k : Int) := ⟨n.toNat, by omega⟩
      rw [Int.toNat_natCast] at hl
      obtain ⟨tv, htv, hix⟩ : ∃ tv : Nat, (len k : Nat) = k / 3 * 4 + tv ∧ ∀ w, (Instr.index 34 (.agg #[.int .i64 0, .int .i64 2, .int .i64 3]) (.int .i64 ((k : Int) % 3))).run Try.prog w = .ok (.int .i64 (tv : Int)) w := by
        refine ⟨([0, 2, 3] : List Nat).getD (k % 3) 0, ?_, fun w => tab3 w (k % 3) (by omega)⟩
        unfold len
        rcases (by omega : k % 3 = 0 ∨ k % 3 = 1 ∨ k % 3 = 2) with h | h | h <;> rw [h] <;> rfl
      have htv2 : tv ≤ 4 := by unfold len at htv; omega
      obtain rfl : ln = (k : Int) / 3 * 4 + (tv : Int) := by rw [hl, htv]; omega
      have dneg : decide ((k : Int) < 0) = false := decide_eq_false (by omega)
      have dbig : decide ((1073741824 : Int) < (k : Int)) = false := decide_eq_false (by omega)
      have hk : k ≤ 1073741824 := by omega
      clear hl htv hbad HLn
      go_wp2
      go_ret
      exact ⟨rfl, HB1.out⟩
end Go.Proofs.Ytcpifencjmlhaaa.B64
