/-
  The document's own reader of numbers: take, fail.
-/
import Derived.Test.YtbpppjokdmmgnaaGreatDoorJRf1
import Derived.Test.YtbpppjokdmmgnaaGreatDoorJPa1
namespace Go.Proofs.YtbpppjokdmmgnaaGreatDoor.Jsn
open Go.RowKit Txt
theorem RP.drewN {w : World} {pb : Nat} {s : List UInt8} {i : Nat} {e a : Int} (h : RP w pb s i e a) (n : Nat) : RP (w.drewN n) pb s i e a := h
theorem G.drewN (pp : Nat) (w : World) (n : Nat) : G pp w (w.drewN n) := ⟨rfl, rfl, rfl, Nat.le_refl _, fun _ _ _ => rfl⟩
theorem RP.set1 {w : World} {pb : Nat} {s : List UInt8} {i : Nat} {e a : Int} (h : RP w pb s i e a) (j : Nat) : RP (w.setCell ⟨pb, 1, none⟩ (.int .i64 (j : Nat))) pb s j e a := blk_set (show Blk w pb _ _ from h) 1 _
theorem RP.set4 {w : World} {pb : Nat} {s : List UInt8} {i : Nat} {e a : Int} (h : RP w pb s i e a) (f : Int) : RP (w.setCell ⟨pb, 4, none⟩ (.int .i64 f)) pb s i f a := blk_set (show Blk w pb _ _ from h) 4 _
theorem RP.set5 {w : World} {pb : Nat} {s : List UInt8} {i : Nat} {e a : Int} (h : RP w pb s i e a) (f : Int) : RP (w.setCell ⟨pb, 5, none⟩ (.int .i64 f)) pb s i e f := blk_set (show Blk w pb _ _ from h) 5 _
set_option maxRecDepth 100000
set_option maxHeartbeats 2000000 in
theorem takeR_any (pb : Nat) (s : List UInt8) (i : Nat) (e a : Int) (c : Nat) (w : World) (h : RP w pb s i e a) (hi : i ≤ s.length) (hl : s.length ≤ 100000) :
    Calls Tryz.prog 25 #[.pointer (some ⟨pb, 0, none⟩), .int .u8 (c : Nat)] w fun e' w' => e' = .returned (.bool (isB s i e c)) ∧ RP w' pb s (if isB s i e c then i + 1 else i) e a ∧ G pb w w' := by
  have HI := Lib.hid (is_any pb s i e a c w h hi)
  have HP := Lib.hid h
  have hw : (0 : Int) ≤ (i : Int) + 1 ∧ (i : Int) + 1 ≤ 10000000 := by omega
  clear h hi hl
  have w6 := wrap64i hw.1 hw.2
  clear hw
  generalize isB s i e c = b at *
  go_enter Tryz.func25, Tryz.ntmps25
  go_wp2_with fail
  refine HI.out.mono ?_
  rintro e' w1 ⟨rfl, n, rfl⟩
  have hp := HP.out.drewN n
  obtain ⟨-, c1, -, -, f1, -⟩ := hp.cells
  have HP1 := Lib.hid hp
  have HG1 := Lib.hid (G.drewN pb w n)
  clear hp HI HP
  cases b with
  | false =>
    go_wp2
    go_ret
    exact ⟨rfl, HP1.out, HG1.out⟩
  | true =>
    go_wp2
    go_ret
    exact ⟨rfl, HP1.out.set1 (i + 1), HG1.out.trans (put1 pb _)⟩
set_option maxHeartbeats 2000000 in
theorem failR_any (pb : Nat) (s : List UInt8) (i : Nat) (e a f x : Int) (w : World) (h : RP w pb s i e a) :
    Calls Tryz.prog 45 #[.pointer (some ⟨pb, 0, none⟩), .int .i64 f, .int .i64 x] w fun e' w' => e' = .returned (.tuple #[]) ∧ RP w' pb s i (if e = 0 then f else e) (if e = 0 then x else a) ∧ G pb w w' := by
  obtain ⟨-, -, c4, c5, -, f4, f5⟩ := h.cells
  have HP := Lib.hid h
  clear h
  by_cases he : e = 0
  · subst he
    go_enter Tryz.func45, Tryz.ntmps45
    go_wp2
    go_end0
    exact ⟨rfl, (HP.out.set4 f).set5 x, (turned w pb 4 _).trans (turned _ pb 5 _)⟩
  · have e0 : (e == 0) = false := by rw [beq_eq_false_iff_ne]; exact he
    rw [if_neg he, if_neg he]
    clear he
    go_enter Tryz.func45, Tryz.ntmps45
    go_wp2
    go_end0
    exact ⟨rfl, HP.out, G.refl _ _⟩
end Go.Proofs.YtbpppjokdmmgnaaGreatDoor.Jsn
