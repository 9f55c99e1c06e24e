/-
  The document's own reader of numbers: digits.
-/
import Derived.Test.YtbpppjokdmmgnaaGreatDoorJRf2
import Derived.Test.YtbpppjokdmmgnaaGreatDoorJNMath2
namespace Go.Proofs.YtbpppjokdmmgnaaGreatDoor.Jsn
open Go.RowKit Txt
/-- The place in memory. -/
def posR (pb : Nat) (w : World) : Nat := match w.cell? ⟨pb, 1, none⟩ with | some v => (intOf v).toNat | none => 0
theorem posR_of {w : World} {pb : Nat} {s : List UInt8} {i : Nat} {e a : Int} (h : RP w pb s i e a) : posR pb w = i := by
  unfold posR
  rw [h.cells.2.1]
  simp [intOf]
theorem digB_off {s : List UInt8} {i : Nat} {e : Int} (h : e ≠ 0) : digB s i e = false := by
  unfold digB
  rw [beq_eq_false_iff_ne.2 h]
  rfl
theorem digB_on {s : List UInt8} {i : Nat} : digB s i 0 = true ↔ (i < s.length ∧ isD (s.getD i 0) = true) := by
  unfold digB
  rw [isD_iff]
  simp only [BEq.rfl, Bool.true_and, Bool.and_eq_true, decide_eq_true_eq, and_assoc]
/-- So many digits from a place on, and no more. -/
def Dgs (s : List UInt8) (i j : Nat) : Prop := i ≤ j ∧ j ≤ s.length ∧ (∀ k, i ≤ k → k < j → isD (s.getD k 0) = true) ∧ digB s j 0 = false
def DigR (pb : Nat) (s : List UInt8) (i : Nat) (w : World) (e' : Ending) (w' : World) : Prop := e' = .returned (.tuple #[]) ∧ ∃ j a, Dgs s i j ∧ RP w' pb s j 0 a ∧ G pb w w'
set_option maxRecDepth 100000
set_option maxHeartbeats 2000000 in
/-- Where a digit comes. -/
theorem digits_on (pb : Nat) (s : List UInt8) (i : Nat) (a : Int) (w : World) (h : RP w pb s i 0 a) (hi : i ≤ s.length) (hl : s.length ≤ 100000) (hd : digB s i 0 = true) :
    Calls Tryz.prog 26 #[.pointer (some ⟨pb, 0, none⟩)] w (DigR pb s i w) := by
  have HC := Lib.hid (digit_any pb s i 0 a w h hi)
  rw [hd] at HC
  have HP := Lib.hid h
  have HL := Lib.hid hl
  clear h hd
  go_enter Tryz.func26, Tryz.ntmps26
  go_wp2_with fail
  refine HC.out.mono ?_
  rintro e w1 ⟨rfl, n, rfl⟩
  have HP1 := Lib.hid (HP.out.drewN n)
  have HG1 := Lib.hid (G.drewN pb w n)
  clear HC HP
  generalize w.drewN n = w1 at *
  go_wp2_with fail
  go_loopw [12] (fun _ wr => ∃ j : Nat, i ≤ j ∧ j ≤ s.length ∧ (∀ k, i ≤ k → k < j → isD (s.getD k 0) = true) ∧ RP wr pb s j 0 a ∧ G pb w wr) (fun _ wr => s.length - posR pb wr)
  case atStart => exact ⟨i, Nat.le_refl _, hi, fun k h1 h2 => by omega, HP1.out, HG1.out⟩
  case round =>
    obtain ⟨j, h1, h2, h3, hp, hg⟩ := hrel
    have HD := Lib.hid h3
    have HQ := Lib.hid hp
    have HG := Lib.hid hg
    have hpos := posR_of hp
    have HPos := Lib.hid hpos
    have HC := Lib.hid (digit_any pb s j 0 a wr hp h2)
    clear h3 hp hg hpos HP1 HG1
    cases hd : digB s j 0 with
    | false =>
      rw [hd] at HC
      have HDd := Lib.hid hd
      clear hd
      go_wp2_with fail
      refine HC.out.mono ?_
      rintro e w2 ⟨rfl, n2, rfl⟩
      have HP2 := Lib.hid (HQ.out.drewN n2)
      have HG2 := Lib.hid (HG.out.trans (G.drewN pb wr n2))
      generalize wr.drewN n2 = w2 at HP2 HG2 ⊢
      go_wp2
      go_end0
      exact ⟨rfl, j, a, ⟨h1, h2, HD.out, HDd.out⟩, HP2.out, HG2.out⟩
    | true =>
      rw [hd] at HC
      obtain ⟨hjl, hjd⟩ := digB_on.1 hd
      have HJd := Lib.hid hjd
      clear hd hjd
      go_wp2_with fail
      refine HC.out.mono ?_
      rintro e w2 ⟨rfl, n2, rfl⟩
      have HP2 := Lib.hid (HQ.out.drewN n2)
      have HG2 := Lib.hid (HG.out.trans (G.drewN pb wr n2))
      generalize wr.drewN n2 = w2 at HP2 HG2 ⊢
      obtain ⟨-, c1, -, -, f1, -⟩ := HP2.out.cells
      have hw : (0 : Int) ≤ (j : Int) + 1 ∧ (j : Int) + 1 ≤ 10000000 := by have := HL.out; omega
      have w6 := wrap64i hw.1 hw.2
      have HP3 := Lib.hid (HP2.out.set1 (j + 1))
      have hp3 := posR_of HP3.out
      have HPos3 := Lib.hid hp3
      clear hw HC hp3
      go_wp2
      go_roundw
      case rel =>
        refine ⟨j + 1, by omega, by omega, fun k k1 k2 => ?_, HP3.out, HG2.out.trans (put1 pb _)⟩
        by_cases hk : k = j
        · rw [hk]; exact HJd.out
        · exact HD.out k k1 (by omega)
      case measure =>
        have e1 := HPos3.out
        have e2 := HPos.out
        rw [show ((j + 1 : Nat) : Int) = (j : Int) + 1 from by omega] at e1
        rw [e1, e2]
        omega
set_option maxHeartbeats 2000000 in
/-- Where none comes. -/
theorem digits_off (pb : Nat) (s : List UInt8) (i : Nat) (ee a : Int) (w : World) (h : RP w pb s i ee a) (hi : i ≤ s.length) (hd : digB s i ee = false) :
    Calls Tryz.prog 26 #[.pointer (some ⟨pb, 0, none⟩)] w fun e' w' => e' = .returned (.tuple #[]) ∧ (∃ f b, f ≠ 0 ∧ RP w' pb s i f b) ∧ G pb w w' := by
  have HC := Lib.hid (digit_any pb s i ee a w h hi)
  rw [hd] at HC
  have HP := Lib.hid h
  clear h hd
  go_enter Tryz.func26, Tryz.ntmps26
  go_wp2_with fail
  refine HC.out.mono ?_
  rintro e w1 ⟨rfl, n, rfl⟩
  have HP1 := Lib.hid (HP.out.drewN n)
  have HG1 := Lib.hid (G.drewN pb w n)
  clear HC HP
  generalize w.drewN n = w1 at *
  obtain ⟨-, c1, -⟩ := HP1.out.cells
  go_wp2_with fail
  refine (failR_any pb s i ee a 31 i w1 HP1.out).mono ?_
  rintro e2 w2 ⟨rfl, hp2, hg2⟩
  have hf : (if ee = 0 then (31 : Int) else ee) ≠ 0 := by split <;> omega
  have HF := Lib.hid hf
  have HP2 := Lib.hid hp2
  have HG2 := Lib.hid (HG1.out.trans hg2)
  clear hp2 hg2 hf c1 HP1 HG1
  generalize (if ee = 0 then (31 : Int) else ee) = f at *
  generalize (if ee = 0 then (i : Int) else a) = b at *
  go_wp2_with fail
  go_loopw [12] (fun _ wr => RP wr pb s i f b ∧ G pb w wr) (fun _ _ => 0)
  case atStart => exact ⟨HP2.out, HG2.out⟩
  case round =>
    obtain ⟨hp, hg⟩ := hrel
    have HQ := Lib.hid hp
    have HG := Lib.hid hg
    have HC := Lib.hid (digit_any pb s i f b wr hp hi)
    rw [digB_off HF.out] at HC
    clear hp hg HP2 HG2
    go_wp2_with fail
    refine HC.out.mono ?_
    rintro e w3 ⟨rfl, n3, rfl⟩
    have HP3 := Lib.hid (HQ.out.drewN n3)
    have HG3 := Lib.hid (HG.out.trans (G.drewN pb wr n3))
    generalize wr.drewN n3 = w3 at HP3 HG3 ⊢
    go_wp2
    go_end0
    exact ⟨rfl, ⟨f, b, HF.out, HP3.out⟩, HG3.out⟩
end Go.Proofs.YtbpppjokdmmgnaaGreatDoor.Jsn
