/-
  The contract of unlike of package disk: how many bytes from a place on differ, up to the first that is equal.
-/
import Derived.Test.YtohdiepoeadenaaD4
import Derived.Deep.QuietTactic
import Derived.BigQuiet
import Derived.IntWalk
namespace Go.Proofs.Ytohdiepoeadenaa.Dsk
open Go.RowKit
theorem Dsk.drewN {w : World} {d g : Nat} {s : Dk} (h : Dsk w d g s) (n : Nat) : Dsk (w.drewN n) d g s := ⟨h.blk, h.row, h.ne⟩
theorem below_drewN {B : Nat} {a w : World} (h : Below B a w) (n : Nat) : Below B a (w.drewN n) := ⟨h.os, h.tape, h.output, h.size, h.block⟩
theorem drewN_two (w : World) (n k : Nat) : (w.drewN n).drewN k = w.drewN (n + k) := by
  simp [World.drewN, Nat.add_assoc]
/-- The bytes of l and m differ at the k places from a on. -/
def Ne (l m : List UInt8) (a k : Nat) : Prop := ∀ i, a ≤ i → i < a + k → l.getD i 0 ≠ m.getD i 0
def Eq' (l m : List UInt8) (a b : Nat) : Prop := ∀ i, a ≤ i → i < b → l.getD i 0 = m.getD i 0
/-- Just k of them, up to the first that is equal. -/
def Unl (l m : List UInt8) (a k : Nat) : Prop := Ne l m a k ∧ a + k ≤ l.length ∧ (a + k = l.length ∨ l.getD (a + k) 0 = m.getD (a + k) 0)
def UnlR (l m : List UInt8) (a : Nat) (w : World) (e : Ending) (w' : World) : Prop := ∃ k n : Nat, Unl l m a k ∧ e = .returned (.int .i64 (k : Int)) ∧ w' = w.drewN n
set_option maxRecDepth 100000
set_option maxHeartbeats 1000000 in
theorem unlike_any (w : World) (d g : Nat) (s : Dk) (h : Dsk w d g s) (d' g' : Nat) (t : Dk) (h' : Dsk w d' g' t) (a : Nat) (ha : a ≤ s.l.length) (hst : s.l.length = t.l.length) (hl : s.l.length ≤ 2000000) :
    Calls Try.prog 26 #[.pointer (some ⟨d, 0, none⟩), .pointer (some ⟨d', 0, none⟩), .int .i64 (a : Int)] w (UnlR s.l t.l a w) := by
  have HS := Lib.hid hst
  have H := Lib.hid h
  have H' := Lib.hid h'
  clear h h' hst
  go_enter Try.func26, Try.ntmps26
  go_wp2
  go_loopw [7] (fun i wr => ∃ k n : Nat, a + k ≤ s.l.length ∧ i = .int .i64 k ∧ Ne s.l t.l a k ∧ wr = w.drewN n) (fun i _ => s.l.length - (intOf i).toNat)
  case atStart => exact ⟨0, 0, by omega, rfl, fun i h1 h2 => by omega, rfl⟩
  case round =>
    obtain ⟨k, n, hk, rfl, hne, hw⟩ := hrel
    have HN := Lib.hid hne
    have HD := Lib.hid (H.out.drewN n)
    have HD' := Lib.hid (H'.out.drewN n)
    rw [← hw] at HD HD'
    have HW := Lib.hid hw
    clear hne hw
    have h0 := HD.out.c0
    have h0' := HD'.out.c0
    rw [← HS.out] at h0'
    by_cases hlt : a + k < s.l.length
    · have hx : wr.cell? ⟨g, a + k, none⟩ = some (.int .u8 ((s.l.getD (a + k) 0).toNat : Nat)) := by rw [HD.out.row.cell]; exact bc_get _ _ hlt
      have hy : wr.cell? ⟨g', a + k, none⟩ = some (.int .u8 ((t.l.getD (a + k) 0).toNat : Nat)) := by rw [HD'.out.row.cell]; exact bc_get _ _ (by have := HS.out; omega)
      have hd : decide ((a : Int) + k < s.l.length) = true := by simp; omega
      have e2 : (0 : Int) ≤ a + k := by omega
      have e3 : ((a : Int) + k).toNat = a + k := by omega
      have e1 : IntKind.i64.wrap ((a : Int) + k) = (a : Int) + k := IntWalk.i64_in _ (by omega)
      by_cases hxy : s.l.getD (a + k) 0 = t.l.getD (a + k) 0
      · have HX := Lib.hid hxy
        rw [← hxy] at hy
        clear hxy
        generalize s.l.getD (a + k) 0 = x at hx hy
        go_wp2
        go_quiet (fail)
        go_wp2
        clear e1 e2 e3
        go_ret
        exact ⟨k, n + nq, ⟨HN.out, by omega, .inr HX.out⟩, rfl, by rw [HW.out, drewN_two]⟩
      · have hxy' : (((s.l.getD (a + k) 0).toNat : Int) != ((t.l.getD (a + k) 0).toNat : Int)) = true := by
          simp only [bne_iff_ne, ne_eq, Int.natCast_inj, UInt8.toNat_inj]
          exact hxy
        have HX := Lib.hid hxy
        clear hxy
        generalize s.l.getD (a + k) 0 = x at hx hxy'
        generalize t.l.getD (a + k) 0 = y at hy hxy'
        go_wp2
        go_quiet (fail)
        clear e1 e2 e3
        go_wp2
        go_roundw
        case rel =>
          refine ⟨k + 1, n + nq, by omega, by go_num, fun i h1 h2 => ?_, by rw [HW.out, drewN_two]⟩
          by_cases h3 : i < a + k
          · exact HN.out i h1 h3
          · obtain rfl : i = a + k := by omega
            exact HX.out
        case measure => simp [intOf]; omega
    · have hd : decide ((a : Int) + k < s.l.length) = false := by simp; omega
      have hd' : ¬ (a : Int) + k < s.l.length := by omega
      have e2 : (0 : Int) ≤ a + k := by omega
      have e3 : ((a : Int) + k).toNat = a + k := by omega
      have e1 : IntKind.i64.wrap ((a : Int) + k) = (a : Int) + k := IntWalk.i64_in _ (by omega)
      go_wp2
      go_quiet (fail)
      clear e1 e2 e3
      go_wp2
      go_ret
      exact ⟨k, n + nq, ⟨HN.out, by omega, .inl (by omega)⟩, rfl, by rw [HW.out, drewN_two]⟩
end Go.Proofs.Ytohdiepoeadenaa.Dsk
