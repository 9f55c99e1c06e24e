/-
  What letterCount and byteCount answer, and the document's letter: all leave the world as it was.
-/
import Derived.Test.YtcpifencjmlhaaaDoorQMem
import Derived.Lib.Bytealg
namespace Go.Proofs.YtcpifencjmlhaaaDoor.B64
open Go.RowKit
set_option maxHeartbeats 400000 in
theorem letterCount_any (n : Nat) (w : World) (hn : n ≤ 4611686018427387904) :
    Calls Tryd.prog 17 #[.int .i64 n] w fun e w' => e = .returned (.int .i64 (len n : Nat)) ∧ w = w' := by
  go_enter Tryd.func17, Tryd.ntmps17
  go_wp2
  go_ret
  exact ⟨ret_num (by unfold len; omega), rfl⟩
set_option maxHeartbeats 400000 in
theorem byteCount_any (n : Nat) (w : World) (hn : n ≤ 4611686018427387904) :
    Calls Tryd.prog 28 #[.int .i64 n] w fun e w' => (∃ m : Nat, m ≤ n ∧ e = .returned (.int .i64 (m : Nat))) ∧ w = w' := by
  go_enter Tryd.func28, Tryd.ntmps28
  go_wp2
  go_ret
  exact ⟨⟨n / 4 * 3 + n % 4 * 6 / 8, by omega, ret_num (by omega)⟩, rfl⟩
/-- The letters, in their order. -/
def url : List Nat := [65, 66, 67, 68, 69, 70, 71, 72, 73, 74, 75, 76, 77, 78, 79, 80, 81, 82, 83, 84, 85, 86, 87, 88, 89, 90, 97, 98, 99, 100, 101, 102, 103, 104, 105, 106, 107, 108, 109, 110, 111, 112, 113, 114, 115, 116, 117, 118, 119, 120, 121, 122, 48, 49, 50, 51, 52, 53, 54, 55, 56, 57, 45, 95]
/-- The number of a letter; -1: it is none. -/
def numI (c : Nat) : Int := Lib.indexByte (url.map UInt8.ofNat) (UInt8.ofNat c)
theorem url_letter : ∀ n, n < 64 → url.getD n 0 = if n < 26 then 65 + n else if n < 52 then 71 + n else if n < 62 then n - 4 else if n = 62 then 45 else 95 := by decide +kernel
theorem url_number : ∀ c, c < 256 → numI c = if 65 ≤ c ∧ c ≤ 90 then (c : Int) - 65 else if 97 ≤ c ∧ c ≤ 122 then (c : Int) - 71 else if 48 ≤ c ∧ c ≤ 57 then (c : Int) + 4 else if c = 45 then 62 else if c = 95 then 63 else -1 := by decide +kernel
theorem ret_int {k : IntKind} {a b : Int} (h : a = b) : Ending.returned (.int k a) = .returned (.int k b) := by rw [h]
set_option maxHeartbeats 400000 in
theorem letter_any (n : Nat) (w : World) (hn : n < 64) :
    Calls Tryd.prog 30 #[.int .i64 n] w fun e w' => e = .returned (.int .u8 (url.getD n 0 : Nat)) ∧ w = w' := by
  have HE := Lib.hid (url_letter n hn)
  go_enter Tryd.func30, Tryd.ntmps30
  by_cases h1 : n < 26
  · go_wp2
    go_ret
    exact ⟨ret_num (by rw [HE.out, if_pos h1]; omega), rfl⟩
  by_cases h2 : n < 52
  · have d1 : decide ((n : Int) < 26) = false := decide_eq_false (by omega)
    go_wp2
    go_ret
    exact ⟨ret_num (by rw [HE.out, if_neg h1, if_pos h2]; omega), rfl⟩
  by_cases h3 : n < 62
  · have d1 : decide ((n : Int) < 26) = false := decide_eq_false (by omega)
    have d2 : decide ((n : Int) < 52) = false := decide_eq_false (by omega)
    go_wp2
    go_ret
    exact ⟨ret_num (by rw [HE.out, if_neg h1, if_neg h2, if_pos h3]; omega), rfl⟩
  have d1 : decide ((n : Int) < 26) = false := decide_eq_false (by omega)
  have d2 : decide ((n : Int) < 52) = false := decide_eq_false (by omega)
  have d3 : decide ((n : Int) < 62) = false := decide_eq_false (by omega)
  by_cases h4 : n = 62
  · subst h4
    go_wp2
    go_ret
    exact ⟨rfl, rfl⟩
  · obtain rfl : n = 63 := by omega
    go_wp2
    go_ret
    exact ⟨rfl, rfl⟩
/-! A letter of a string. -/
theorem run_idx (w : World) (l : List Nat) (hb : Bs l) (k : IntKind) (i : Nat) (hi : i < l.length) : (Instr.index 9 (.string (str l)) (.int k (i : Int))).run Tryd.prog w = .ok (.int .u8 (l.getD i 0 : Nat)) w := by
  rw [run_index_string w 9 (str l) k i Tryd.underlying9]
  have hs := str_size l
  rw [dif_pos ⟨by omega, by omega⟩]
  congr 2
  have h1 : (str l)[((i : Int).toNat)]'(by omega) = UInt8.ofNat (l.getD i 0) := by
    show (str l).data[((i : Int).toNat)]'_ = _
    simp [str, List.getD_eq_getElem?_getD, List.getElem?_eq_getElem hi]
  rw [h1]
  have := hb.getD i
  simp only [UInt8.toNat_ofNat']
  rw [Nat.mod_eq_of_lt this]
end Go.Proofs.YtcpifencjmlhaaaDoor.B64
