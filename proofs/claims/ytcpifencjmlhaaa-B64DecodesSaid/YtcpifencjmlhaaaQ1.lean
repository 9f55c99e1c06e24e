/-
  What letterCount, byteCount and Length answer, and the document's letter and number: all leave the world as it was.
-/
import Derived.Test.YtcpifencjmlhaaaQMem
import Derived.Lib.Bytealg
namespace Go.Proofs.Ytcpifencjmlhaaa.B64
open Go.RowKit
set_option maxHeartbeats 400000 in
theorem letterCount_any (n : Nat) (w : World) (hn : n ≤ 4611686018427387904) :
    Calls Try.prog 17 #[.int .i64 n] w fun e w' => e = .returned (.int .i64 (len n : Nat)) ∧ w = w' := by
  go_enter Try.func17, Try.ntmps17
  go_wp2
  go_ret
  exact ⟨ret_num (by unfold len; omega), rfl⟩
set_option maxHeartbeats 400000 in
theorem byteCount_any (n : Nat) (w : World) (hn : n ≤ 4611686018427387904) :
    Calls Try.prog 21 #[.int .i64 n] w fun e w' => (∃ m : Nat, m ≤ n ∧ e = .returned (.int .i64 (m : Nat))) ∧ w = w' := by
  go_enter Try.func21, Try.ntmps21
  go_wp2
  go_ret
  exact ⟨⟨n / 4 * 3 + n % 4 * 6 / 8, by omega, ret_num (by omega)⟩, rfl⟩
/-- The letters, in their order. -/
def url : List Nat := [65, 66, 67, 68, 69, 70, 71, 72, 73, 74, 75, 76, 77, 78, 79, 80, 81, 82, 83, 84, 85, 86, 87, 88, 89, 90, 97, 98, 99, 100, 101, 102, 103, 104, 105, 106, 107, 108, 109, 110, 111, 112, 113, 114, 115, 116, 117, 118, 119, 120, 121, 122, 48, 49, 50, 51, 52, 53, 54, 55, 56, 57, 45, 95]
/-- The number of a letter; -1: it is none. -/
def numI (c : Nat) : Int := Lib.indexByte (url.map UInt8.ofNat) (UInt8.ofNat c)
theorem url_letter : ∀ n, n < 64 → url.getD n 0 = if n < 26 then 65 + n else if n < 52 then 71 + n else if n < 62 then n - 4 else if n = 62 then 45 else 95 := by decide +kernel
theorem url_number : ∀ c, c < 256 → numI c = if 65 ≤ c ∧ c ≤ 90 then (c : Int) - 65 else if 97 ≤ c ∧ c ≤ 122 then (c : Int) - 71 else if 48 ≤ c ∧ c ≤ 57 then (c : Int) + 4 else if c = 45 then 62 else if c = 95 then 63 else -1 := by decide +kernel
theorem ret_int {k : IntKind} {a b : Int} (h : a = b) : Ending.returned (.int k a) = .returned (.int k b) := by rw [h]
set_option maxHeartbeats 400000 in
theorem letter_any (n : Nat) (w : World) (hn : n < 64) :
    Calls Try.prog 15 #[.int .i64 n] w fun e w' => e = .returned (.int .u8 (url.getD n 0 : Nat)) ∧ w = w' := by
  have HE := Lib.hid (url_letter n hn)
  go_enter Try.func15, Try.ntmps15
  by_cases h1 : n < 26
  · go_wp2
    go_ret
    exact ⟨ret_num (by rw [HE.out, if_pos h1]; omega), rfl⟩
  by_cases h2 : n < 52
  · have d1 : decide ((n : Int) < 26) = false := decide_eq_false (by omega)
    go_wp2
    go_ret
    exact ⟨ret_num (by rw [HE.out, if_neg h1, if_pos h2]; omega), rfl⟩
  by_cases h3 : n < 62
  · have d1 : decide ((n : Int) < 26) = false := decide_eq_false (by omega)
    have d2 : decide ((n : Int) < 52) = false := decide_eq_false (by omega)
    go_wp2
    go_ret
    exact ⟨ret_num (by rw [HE.out, if_neg h1, if_neg h2, if_pos h3]; omega), rfl⟩
  have d1 : decide ((n : Int) < 26) = false := decide_eq_false (by omega)
  have d2 : decide ((n : Int) < 52) = false := decide_eq_false (by omega)
  have d3 : decide ((n : Int) < 62) = false := decide_eq_false (by omega)
  by_cases h4 : n = 62
  · subst h4
    go_wp2
    go_ret
    exact ⟨rfl, rfl⟩
  · obtain rfl : n = 63 := by omega
    go_wp2
    go_ret
    exact ⟨rfl, rfl⟩
set_option maxHeartbeats 1000000 in
theorem number_any (c : Nat) (w : World) (hc : c < 256) :
    Calls Try.prog 16 #[.int .u8 c] w fun e w' => e = .returned (.int .i64 (numI c)) ∧ w = w' := by
  have HE := Lib.hid (url_number c hc)
  go_enter Try.func16, Try.ntmps16
  by_cases h1 : 65 ≤ c ∧ c ≤ 90
  · obtain ⟨a1, a2⟩ := h1
    go_wp2
    go_ret
    exact ⟨ret_int (by rw [HE.out, if_pos ⟨a1, a2⟩]), rfl⟩
  by_cases h2 : 97 ≤ c ∧ c ≤ 122
  · obtain ⟨a1, a2⟩ := h2
    have d1 : decide ((c : Int) ≤ 90) = false := decide_eq_false (by omega)
    go_wp2
    go_ret
    exact ⟨ret_int (by rw [HE.out, if_neg h1, if_pos ⟨a1, a2⟩]; omega), rfl⟩
  by_cases h3 : 48 ≤ c ∧ c ≤ 57
  · obtain ⟨a1, a2⟩ := h3
    have d1 : decide ((65 : Int) ≤ (c : Int)) = false := decide_eq_false (by omega)
    have d2 : decide ((97 : Int) ≤ (c : Int)) = false := decide_eq_false (by omega)
    go_wp2
    go_ret
    exact ⟨ret_int (by rw [HE.out, if_neg h1, if_neg h2, if_pos ⟨a1, a2⟩]; omega), rfl⟩
  have hv : numI c = if c = 45 then 62 else if c = 95 then 63 else -1 := by rw [HE.out, if_neg h1, if_neg h2, if_neg h3]
  have HV := Lib.hid hv
  clear hv HE
  by_cases h4 : c = 45
  · subst h4
    go_wp2
    go_ret
    exact ⟨ret_int (by rw [HV.out]; rfl), rfl⟩
  by_cases h5 : c = 95
  · subst h5
    go_wp2
    go_ret
    exact ⟨ret_int (by rw [HV.out]; rfl), rfl⟩
  have d4 : ((c : Int) == 45) = false := beq_false_of_ne (by omega)
  have d5 : ((c : Int) == 95) = false := beq_false_of_ne (by omega)
  have HR : Hid (numI c = -1) := Lib.hid (by rw [HV.out, if_neg h4, if_neg h5])
  clear HV
  rcases Nat.lt_or_ge c 48 with g1 | g1
  · have d1 : decide ((65 : Int) ≤ (c : Int)) = false := decide_eq_false (by omega)
    have d2 : decide ((97 : Int) ≤ (c : Int)) = false := decide_eq_false (by omega)
    have d3 : decide ((48 : Int) ≤ (c : Int)) = false := decide_eq_false (by omega)
    go_wp2
    go_ret
    exact ⟨ret_int (by rw [HR.out]), rfl⟩
  have e1 : decide ((48 : Int) ≤ (c : Int)) = true := decide_eq_true (by omega)
  have e2 : decide ((c : Int) ≤ 57) = false := decide_eq_false (by omega)
  rcases Nat.lt_or_ge c 65 with g2 | g2
  · have d1 : decide ((65 : Int) ≤ (c : Int)) = false := decide_eq_false (by omega)
    have d2 : decide ((97 : Int) ≤ (c : Int)) = false := decide_eq_false (by omega)
    go_wp2
    go_ret
    exact ⟨ret_int (by rw [HR.out]), rfl⟩
  have e3 : decide ((65 : Int) ≤ (c : Int)) = true := decide_eq_true (by omega)
  have e4 : decide ((c : Int) ≤ 90) = false := decide_eq_false (by omega)
  rcases Nat.lt_or_ge c 97 with g3 | g3
  · have d2 : decide ((97 : Int) ≤ (c : Int)) = false := decide_eq_false (by omega)
    go_wp2
    go_ret
    exact ⟨ret_int (by rw [HR.out]), rfl⟩
  have e5 : decide ((97 : Int) ≤ (c : Int)) = true := decide_eq_true (by omega)
  have e6 : decide ((c : Int) ≤ 122) = false := decide_eq_false (by omega)
  go_wp2
  go_ret
  exact ⟨ret_int (by rw [HR.out]), rfl⟩
/-! A letter of a string. -/
theorem run_idx (w : World) (l : List Nat) (hb : Bs l) (k : IntKind) (i : Nat) (hi : i < l.length) : (Instr.index 9 (.string (str l)) (.int k (i : Int))).run Try.prog w = .ok (.int .u8 (l.getD i 0 : Nat)) w := by
  rw [run_index_string w 9 (str l) k i Try.underlying9]
  have hs := str_size l
  rw [dif_pos ⟨by omega, by omega⟩]
  congr 2
  have h1 : (str l)[((i : Int).toNat)]'(by omega) = UInt8.ofNat (l.getD i 0) := by
    show (str l).data[((i : Int).toNat)]'_ = _
    simp [str, List.getD_eq_getElem?_getD, List.getElem?_eq_getElem hi]
  rw [h1]
  have := hb.getD i
  simp only [UInt8.toNat_ofNat']
  rw [Nat.mod_eq_of_lt this]
end Go.Proofs.Ytcpifencjmlhaaa.B64
