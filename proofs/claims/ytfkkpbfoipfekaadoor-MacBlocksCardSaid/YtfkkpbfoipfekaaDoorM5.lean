/-
  What mac.Equal tells: whether two slices read as the same bytes; nothing that was there before the call has changed.
-/
import Derived.Test.YtfkkpbfoipfekaaDoorM4
namespace Go.Proofs.YtfkkpbfoipfekaaDoor
open Go.RowKit
theorem take_eq_succ (xs ys : List Nat) (k : Nat) (hx : k < xs.length) (hy : k < ys.length) : xs.take (k + 1) = ys.take (k + 1) ↔ xs.take k = ys.take k ∧ xs.getD k 0 = ys.getD k 0 := by
  rw [List.take_succ_eq_append_getElem hx, List.take_succ_eq_append_getElem hy, List.getD_eq_getElem?_getD, List.getElem?_eq_getElem hx, List.getD_eq_getElem?_getD, List.getElem?_eq_getElem hy, Option.getD_some, Option.getD_some]
  constructor
  · intro h
    have h1 := List.append_inj' h rfl
    exact ⟨h1.1, by simpa using h1.2⟩
  · rintro ⟨h1, h2⟩
    rw [h1, h2]
theorem diff_step (d x y : Nat) : d ||| (x ^^^ y) = 0 ↔ d = 0 ∧ x = y := by
  rw [Nat.or_eq_zero_iff]
  constructor
  · rintro ⟨h1, h2⟩
    refine ⟨h1, ?_⟩
    have e : (x ^^^ y) ^^^ y = x := by rw [Nat.xor_assoc, Nat.xor_self, Nat.xor_zero]
    rw [h2, Nat.zero_xor] at e
    exact e.symm
  · rintro ⟨h1, rfl⟩
    exact ⟨h1, Nat.xor_self _⟩
set_option maxRecDepth 100000
set_option maxHeartbeats 400000 in
theorem equal_any (w : World) (A B : Option Addr) (c d : Nat) (xs ys : List Nat) (hRx : RdB w w.heap.size A xs) (hRy : RdB w w.heap.size B ys) (hbx : Sha.Bs xs) (hby : Sha.Bs ys) (hmx : xs.length ≤ 9223372036854775807) :
    Calls Tryd.prog 15 #[.slice A xs.length c, .slice B ys.length d] w fun e w' => e = .returned (.bool (decide (xs = ys))) ∧ Below w.heap.size w w' := by
  have HRx := Lib.hid hRx
  have HRy := Lib.hid hRy
  have HBx := Lib.hid hbx
  have HBy := Lib.hid hby
  clear hRx hRy hbx hby
  go_enter Tryd.func15, Tryd.ntmps15
  by_cases hl : xs.length = ys.length
  · rw [← hl]
    have HL := Lib.hid hl
    clear hl
    go_wp2
    go_loopw [5, 14] (fun v i wr => ∃ k dv : Nat, k ≤ xs.length ∧ i = .int .i64 k ∧ v = .int .u8 (dv : Int) ∧ dv < 256 ∧ (dv = 0 ↔ xs.take k = ys.take k) ∧ Below w.heap.size w wr) (fun _ i _ => xs.length - (intOf i).toNat)
    case atStart => exact ⟨0, 0, by omega, rfl, rfl, by omega, by simp, Below.refl _ _⟩
    case round =>
      obtain ⟨k, dv, hk, rfl, rfl, hdv, hiff, hbel⟩ := hrel
      by_cases hlt : k < xs.length
      · obtain ⟨a1, rfl, hb1, hc1⟩ := HRx.out (by omega)
        obtain ⟨a2, rfl, hb2, hc2⟩ := HRy.out (by have := HL.out; omega)
        have c1 : wr.cell? (a1.add k) = some (.int .u8 (xs.getD k 0 : Nat)) := (hbel.cell (by rw [block_add]; exact hb1)).trans (hc1 k _ (vals_get _ _ _ hlt))
        have c2 : wr.cell? (a2.add k) = some (.int .u8 (ys.getD k 0 : Nat)) := (hbel.cell (by rw [block_add]; exact hb2)).trans (hc2 k _ (vals_get _ _ _ (by have := HL.out; omega)))
        have hx8 := HBx.out.getD k
        have hy8 := HBy.out.getD k
        have HT := Lib.hid (take_eq_succ xs ys k hlt (by have := HL.out; omega))
        have HIF := Lib.hid hiff
        have HB := Lib.hid hbel
        clear hiff hbel hc1 hc2
        generalize xs.getD k 0 = x at *
        generalize ys.getD k 0 = y at *
        have hxy : x ^^^ y < 256 := Nat.xor_lt_two_pow (n := 8) hx8 hy8
        have e1 := u8_xor_nat x y hx8 hy8
        have e2 := u8_or_nat dv (x ^^^ y) hdv hxy
        go_upto_region 7 with (fail)
        go_quiet (fail)
        clear c1 c2 e1 e2
        go_wp2
        go_roundw
        case rel => exact ⟨k + 1, dv ||| (x ^^^ y), by omega, by go_num, rfl, Nat.or_lt_two_pow (n := 8) hdv hxy, by rw [diff_step, HT.out, HIF.out], below_drewN HB.out _⟩
        case measure => simp [intOf]; omega
      · obtain rfl : k = xs.length := by omega
        have HB := Lib.hid hbel
        have hq : xs = ys ↔ dv = 0 := by
          rw [hiff, List.take_length, List.take_of_length_le (by have := HL.out; omega)]
        have HQ := Lib.hid hq
        clear hiff hbel hq
        go_wp2
        go_ret
        have hq2 : ((dv : Int) == 0) = decide (xs = ys) := by
          rw [Bool.eq_iff_iff]
          simp [HQ.out]
        exact ⟨congrArg (fun b => Ending.returned (.bool b)) hq2, HB.out⟩
  · have hne : ¬ xs = ys := fun e => hl (by rw [e])
    have hl2 : ((xs.length : Int) == (ys.length : Int)) = false := by simp; omega
    go_wp2
    go_ret
    exact ⟨by simp [hne], Below.refl _ _⟩
end Go.Proofs.YtfkkpbfoipfekaaDoor
