/-
  What unescapeHex, unescapeFirst and Unescape answer; nothing that was there before is changed.
-/
import Derived.Test.YtchlikigjijdkaaDoorT2
import Derived.Test.YtchlikigjijdkaaDoorT5
namespace Go.Proofs.YtchlikigjijdkaaDoor.Txt
open Go.RowKit
set_option maxRecDepth 100000
/-- What unescapeFirst hands back. -/
def first (l : List UInt8) : Value := match un1 l with
  | none => .tuple #[.int .u8 0, .int .i64 0]
  | some (b, k) => .tuple #[.int .u8 (b.toNat : Nat), .int .i64 k]
theorem first_none {l : List UInt8} (h : un1 l = none) : first l = .tuple #[.int .u8 0, .int .i64 0] := by unfold first; rw [h]
theorem first_some {l : List UInt8} {b : UInt8} {k : Nat} (h : un1 l = some (b, k)) : first l = .tuple #[.int .u8 (b.toNat : Nat), .int .i64 k] := by unfold first; rw [h]
theorem or_hex : ∀ a b : Fin 16, bits .or .i64 ((a.val : Int) * 16) (b.val : Int) = (a.val : Int) * 16 + b.val := by decide +kernel
set_option maxHeartbeats 1000000 in
theorem unescapeHex_any (l : List UInt8) (h37 : (l.getD 0 0).toNat = 37) (hl : l.length ≤ 100000000) (w : World) :
    Calls Tryd.prog 38 #[.string (mk l)] w fun e w' => e = .returned (first l) ∧ Below w.heap.size w w' := by
  by_cases h3 : l.length < 3
  · have hu : un1 l = none := by unfold un1; rw [if_neg (by omega), if_pos h37, if_pos h3]
    rw [first_none hu]
    clear hu
    have hms := mk_size
    have hmt := mk_toList
    go_enter Tryd.func38, Tryd.ntmps38
    go_wp2
    go_ret2
    exact ⟨rfl, Below.refl _ _⟩
  · have hi1 : ∀ w, (Instr.index 9 (.string (mk l)) (.int .i64 1)).run Tryd.prog w = .ok (.int .u8 ((l.getD 1 0).toNat : Nat)) w := fun w => run_idx w l .i64 1 (by omega)
    have hi2 : ∀ w, (Instr.index 9 (.string (mk l)) (.int .i64 2)).run Tryd.prog w = .ok (.int .u8 ((l.getD 2 0).toNat : Nat)) w := fun w => run_idx w l .i64 2 (by omega)
    have hu : un1 l = if hv (l.getD 1 0) < 0 ∨ hv (l.getD 2 0) < 0 then none else some (UInt8.ofNat (16 * hv (l.getD 1 0) + hv (l.getD 2 0)).toNat, 3) := by unfold un1; rw [if_neg (by omega), if_pos h37, if_neg h3]
    have r1 := hv_range (l.getD 1 0)
    have r2 := hv_range (l.getD 2 0)
    have hC1 := fun w => hexValue_any (l.getD 1 0) w
    have hC2 := fun w => hexValue_any (l.getD 2 0) w
    have hD1 : ∀ (w : World) (n : Nat), Calls Tryd.prog 43 #[.int .u8 ((l.getD 1 0).toNat : Nat)] (w.drewN n) fun e w' => e = .returned (.int .i64 (hv (l.getD 1 0))) ∧ w' = w.drewN n := fun w n => (hC1 _).mono fun _ _ h => ⟨h.1, h.2.symm⟩
    have hD2 : ∀ (w : World) (n : Nat), Calls Tryd.prog 43 #[.int .u8 ((l.getD 2 0).toNat : Nat)] (w.drewN n) fun e w' => e = .returned (.int .i64 (hv (l.getD 2 0))) ∧ w' = w.drewN n := fun w n => (hC2 _).mono fun _ _ h => ⟨h.1, h.2.symm⟩
    have HD1 := Lib.hid hD1
    have HD2 := Lib.hid hD2
    have HU := Lib.hid hu
    clear hC1 hC2 hD1 hD2 h37 hu
    generalize (l.getD 1 0) = x1 at *
    generalize (l.getD 2 0) = x2 at *
    generalize hv x1 = v1 at *
    generalize hv x2 = v2 at *
    have hms := mk_size
    have hmt := mk_toList
    go_enter Tryd.func38, Tryd.ntmps38
    go_wp2
    go_quiet (first
      | (go_at_call 43; with_reducible exact Calls.quiet_of_same (HD1.out _ _))
      | (go_at_call 43; with_reducible exact Calls.quiet_of_same (HD2.out _ _)))
    by_cases n1 : v1 < 0
    · have hu : un1 l = none := by rw [HU.out, if_pos (.inl n1)]
      have HF := Lib.hid (first_none hu)
      clear hu HU
      go_wp2
      go_ret2
      exact ⟨by rw [HF.out]; rfl, drew_n (Below.refl _ _) _⟩
    by_cases n2 : v2 < 0
    · have hu : un1 l = none := by rw [HU.out, if_pos (.inr n2)]
      have HF := Lib.hid (first_none hu)
      have m1 : 0 ≤ v1 := by omega
      clear hu HU
      go_wp2
      go_ret2
      exact ⟨by rw [HF.out]; rfl, drew_n (Below.refl _ _) _⟩
    have hu : un1 l = some (UInt8.ofNat (16 * v1 + v2).toNat, 3) := by rw [HU.out, if_neg (by omega)]
    have m1 : 0 ≤ v1 := by omega
    have m2 : 0 ≤ v2 := by omega
    have hor : bits .or .i64 (v1 * 16) v2 = v1 * 16 + v2 := by
      have := or_hex ⟨v1.toNat, by omega⟩ ⟨v2.toNat, by omega⟩
      simp only [Int.toNat_of_nonneg m1, Int.toNat_of_nonneg m2] at this
      exact this
    have k1 : v1 ≤ 15 := by omega
    have k2 : v2 ≤ 15 := by omega
    have HF := Lib.hid (first_some hu)
    have hof : ((UInt8.ofNat (16 * v1 + v2).toNat).toNat : Int) = v1 * 16 + v2 := by
      simp only [UInt8.toNat_ofNat']
      omega
    rw [hof] at HF
    clear hu HU hof r1 r2 n1 n2
    go_wp2
    go_ret2
    exact ⟨by rw [HF.out]; rfl, drew_n (Below.refl _ _) _⟩
set_option maxHeartbeats 1000000 in
theorem unescapeFirst_any (l : List UInt8) (hne : l ≠ []) (hl : l.length ≤ 100000000) (w : World) :
    Calls Tryd.prog 25 #[.string (mk l)] w fun e w' => e = .returned (first l) ∧ Below w.heap.size w w' := by
  have hl0 : 0 < l.length := List.length_pos_iff.2 hne
  have hi0 : ∀ w, (Instr.index 9 (.string (mk l)) (.int .i64 0)).run Tryd.prog w = .ok (.int .u8 ((l.getD 0 0).toNat : Nat)) w := fun w => run_idx w l .i64 0 hl0
  by_cases h43 : (l.getD 0 0).toNat = 43
  · have hu : un1 l = some (32, 1) := by unfold un1; rw [if_pos h43]
    rw [first_some hu]
    have hq : (((l.getD 0 0).toNat : Int) == 43) = true := by rw [beq_iff_eq]; omega
    clear hu h43
    generalize (l.getD 0 0).toNat = b at *
    have hms := mk_size
    have hmt := mk_toList
    go_enter Tryd.func25, Tryd.ntmps25
    go_wp2
    go_ret2
    exact ⟨rfl, Below.refl _ _⟩
  have hq : (((l.getD 0 0).toNat : Int) == 43) = false := by rw [beq_eq_false_iff_ne]; omega
  by_cases h37 : (l.getD 0 0).toNat = 37
  · have HC := Lib.hid (unescapeHex_any l h37 hl w)
    have hq2 : (((l.getD 0 0).toNat : Int) == 37) = true := by rw [beq_iff_eq]; omega
    clear h43 h37
    generalize (l.getD 0 0).toNat = b at *
    have hf : ∃ x y, first l = .tuple #[x, y] := by
      unfold first
      split
      · exact ⟨_, _, rfl⟩
      · exact ⟨_, _, rfl⟩
    obtain ⟨x, y, hxy⟩ := hf
    rw [hxy] at HC ⊢
    clear hxy
    have hms := mk_size
    have hmt := mk_toList
    go_enter Tryd.func25, Tryd.ntmps25
    go_wp2_with fail
    refine HC.out.mono ?_
    rintro e w1 ⟨rfl, hb1⟩
    have HB := Lib.hid hb1
    clear HC hb1
    go_wp2
    go_ret2
    exact ⟨rfl, HB.out⟩
  have hq2 : (((l.getD 0 0).toNat : Int) == 37) = false := by rw [beq_eq_false_iff_ne]; omega
  have hb := (l.getD 0 0).toNat_lt
  by_cases hbad : (l.getD 0 0).toNat < 33 ∨ (l.getD 0 0).toNat > 126 ∨ (l.getD 0 0).toNat = 38 ∨ (l.getD 0 0).toNat = 61
  · have hu : un1 l = none := by unfold un1; rw [if_neg h43, if_neg h37, if_pos hbad]
    rw [first_none hu]
    clear hu h43 h37
    generalize (l.getD 0 0).toNat = b at *
    have HBad := Lib.hid hbad
    clear hbad
    have hms := mk_size
    have hmt := mk_toList
    go_enter Tryd.func25, Tryd.ntmps25
    go_wp2
    all_goals (try simp only [beq_iff_eq, beq_eq_false_iff_ne, ne_eq] at *)
    all_goals (try (exfalso; have := HBad.out; omega))
    all_goals go_ret2
    all_goals exact ⟨rfl, Below.refl _ _⟩
  · have hu : un1 l = some (l.getD 0 0, 1) := by unfold un1; rw [if_neg h43, if_neg h37, if_neg hbad]
    rw [first_some hu]
    have k1 : (33 : Int) ≤ ((l.getD 0 0).toNat : Int) := by omega
    have k2 : ((l.getD 0 0).toNat : Int) ≤ (126 : Int) := by omega
    have hq3 : (((l.getD 0 0).toNat : Int) == 38) = false := by rw [beq_eq_false_iff_ne]; omega
    have hq4 : (((l.getD 0 0).toNat : Int) == 61) = false := by rw [beq_eq_false_iff_ne]; omega
    clear hu h43 h37 hbad
    generalize (l.getD 0 0).toNat = b at *
    have hms := mk_size
    have hmt := mk_toList
    go_enter Tryd.func25, Tryd.ntmps25
    go_wp2
    go_ret2
    exact ⟨rfl, Below.refl _ _⟩
end Go.Proofs.YtchlikigjijdkaaDoor.Txt
