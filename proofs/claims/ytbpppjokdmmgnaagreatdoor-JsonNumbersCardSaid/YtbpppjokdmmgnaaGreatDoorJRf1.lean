/-
  The document's own reader of numbers: is, digit, take, fail.
-/
import Derived.Test.YtbpppjokdmmgnaaGreatDoorJNum
import Derived.BigQuiet
namespace Go.Proofs.YtbpppjokdmmgnaaGreatDoor.Jsn
open Go.RowKit Txt
/-- The document's reader in memory. -/
def RP (w : World) (pb : Nat) (s : List UInt8) (i : Nat) (e at' : Int) : Prop := Blk w pb 32 #[.string (mk s), .int .i64 (i : Nat), .int .i64 0, .int .i64 0, .int .i64 e, .int .i64 at']
theorem RP.cells {w : World} {pb : Nat} {s : List UInt8} {i : Nat} {e at' : Int} (h : RP w pb s i e at') : w.cell? ⟨pb, 0, none⟩ = some (.string (mk s)) ∧ w.cell? ⟨pb, 1, none⟩ = some (.int .i64 (i : Nat)) ∧ w.cell? ⟨pb, 4, none⟩ = some (.int .i64 e) ∧ w.cell? ⟨pb, 5, none⟩ = some (.int .i64 at') ∧ w.frozen? ⟨pb, 1, none⟩ = false ∧ w.frozen? ⟨pb, 4, none⟩ = false ∧ w.frozen? ⟨pb, 5, none⟩ = false :=
  ⟨(show Blk w pb _ _ from h).cell 0, (show Blk w pb _ _ from h).cell 1, (show Blk w pb _ _ from h).cell 4, (show Blk w pb _ _ from h).cell 5, Lib.frozen_of_heap h 1, Lib.frozen_of_heap h 4, Lib.frozen_of_heap h 5⟩
def isB (s : List UInt8) (i : Nat) (e : Int) (c : Nat) : Bool := e == 0 && decide (i < s.length) && (s.getD i 0).toNat == c
set_option maxRecDepth 100000
set_option maxHeartbeats 2000000 in
theorem is_any (pb : Nat) (s : List UInt8) (i : Nat) (e at' : Int) (c : Nat) (w : World) (h : RP w pb s i e at') (hi : i ≤ s.length) :
    Calls Tryz.prog 43 #[.pointer (some ⟨pb, 0, none⟩), .int .u8 (c : Nat)] w fun e' w' => e' = .returned (.bool (isB s i e c)) ∧ ∃ n, w' = w.drewN n := by
  obtain ⟨c0, c1, c4, -⟩ := h.cells
  clear h
  have hms := mk_size
  have hmt := mk_toList
  by_cases he : e = 0
  · subst he
    by_cases hlt : i < s.length
    · have ri := fun w => run_idx w s .i64 i hlt
      have d1 : decide ((i : Int) < (s.length : Int)) = true := by rw [decide_eq_true_eq]; omega
      have HF : Hid (isB s i 0 c = (((s.getD i 0).toNat : Int) == (c : Int))) := Lib.hid (by
        unfold isB
        rw [decide_eq_true hlt, Bool.eq_iff_iff]
        simp only [BEq.rfl, Bool.true_and, beq_iff_eq]
        omega)
      generalize (s.getD i 0).toNat = b at *
      go_enter Tryz.func43, Tryz.ntmps43
      go_wp2
      go_quiet (fail)
      all_goals go_wp2
      all_goals go_ret
      exact ⟨by rw [HF.out]; rfl, _, rfl⟩
    · have d1 : decide ((i : Int) < (s.length : Int)) = false := by rw [decide_eq_false_iff_not]; omega
      have HF : Hid (isB s i 0 c = false) := Lib.hid (by unfold isB; rw [decide_eq_false hlt]; simp)
      go_enter Tryz.func43, Tryz.ntmps43
      go_wp2
      go_quiet (fail)
      all_goals go_wp2
      all_goals go_ret
      exact ⟨by rw [HF.out]; rfl, _, rfl⟩
  · have e0 : (e == 0) = false := by rw [beq_eq_false_iff_ne]; exact he
    have HF : Hid (isB s i e c = false) := Lib.hid (by unfold isB; rw [e0]; rfl)
    go_enter Tryz.func43, Tryz.ntmps43
    go_wp2
    go_quiet (fail)
    all_goals go_wp2
    all_goals go_ret
    exact ⟨by rw [HF.out]; rfl, _, rfl⟩
def digB (s : List UInt8) (i : Nat) (e : Int) : Bool := e == 0 && decide (i < s.length) && decide (48 ≤ (s.getD i 0).toNat) && decide ((s.getD i 0).toNat ≤ 57)
set_option maxHeartbeats 4000000 in
theorem digit_any (pb : Nat) (s : List UInt8) (i : Nat) (e at' : Int) (w : World) (h : RP w pb s i e at') (hi : i ≤ s.length) :
    Calls Tryz.prog 44 #[.pointer (some ⟨pb, 0, none⟩)] w fun e' w' => e' = .returned (.bool (digB s i e)) ∧ ∃ n, w' = w.drewN n := by
  obtain ⟨c0, c1, c4, -⟩ := h.cells
  clear h
  have hms := mk_size
  have hmt := mk_toList
  by_cases he : e = 0
  · subst he
    by_cases hlt : i < s.length
    · have ri := fun w => run_idx w s .i64 i hlt
      have d1 : decide ((i : Int) < (s.length : Int)) = true := by rw [decide_eq_true_eq]; omega
      have HF : Hid (digB s i 0 = (decide (48 ≤ (s.getD i 0).toNat) && decide ((s.getD i 0).toNat ≤ 57))) := Lib.hid (by
        unfold digB
        rw [decide_eq_true hlt]
        simp only [BEq.rfl, Bool.true_and])
      generalize (s.getD i 0).toNat = b at *
      by_cases h48 : 48 ≤ b
      · have d2 : decide ((48 : Int) ≤ (b : Int)) = true := by rw [decide_eq_true_eq]; omega
        have HF2 : Hid (digB s i 0 = decide ((b : Int) ≤ 57)) := Lib.hid (by
          rw [HF.out, decide_eq_true h48, Bool.true_and, Bool.eq_iff_iff, decide_eq_true_eq, decide_eq_true_eq]
          omega)
        clear h48
        go_enter Tryz.func44, Tryz.ntmps44
        go_wp2
        go_quiet (fail)
        all_goals go_wp2
        all_goals go_ret
        exact ⟨by rw [HF2.out]; rfl, _, rfl⟩
      · have d2 : decide ((48 : Int) ≤ (b : Int)) = false := by rw [decide_eq_false_iff_not]; omega
        have HF2 : Hid (digB s i 0 = false) := Lib.hid (by rw [HF.out, decide_eq_false h48]; rfl)
        clear h48
        go_enter Tryz.func44, Tryz.ntmps44
        go_wp2
        go_quiet (fail)
        all_goals go_wp2
        all_goals go_ret
        exact ⟨by rw [HF2.out]; rfl, _, rfl⟩
    · have d1 : decide ((i : Int) < (s.length : Int)) = false := by rw [decide_eq_false_iff_not]; omega
      have HF : Hid (digB s i 0 = false) := Lib.hid (by unfold digB; rw [decide_eq_false hlt]; simp)
      go_enter Tryz.func44, Tryz.ntmps44
      go_wp2
      go_quiet (fail)
      all_goals go_wp2
      all_goals go_ret
      exact ⟨by rw [HF.out]; rfl, _, rfl⟩
  · have e0 : (e == 0) = false := by rw [beq_eq_false_iff_ne]; exact he
    have HF : Hid (digB s i e = false) := Lib.hid (by unfold digB; rw [e0]; rfl)
    go_enter Tryz.func44, Tryz.ntmps44
    go_wp2
    go_quiet (fail)
    all_goals go_wp2
    all_goals go_ret
    exact ⟨by rw [HF.out]; rfl, _, rfl⟩
end Go.Proofs.YtbpppjokdmmgnaaGreatDoor.Jsn
