/-
  The contracts of watch, Room, Generation and Records of package wal.
-/
import Derived.Test.YtaoaegkfejlgkaaW11
import Derived.BigQuiet
import Derived.Deep.QuietTactic
namespace Go.Proofs.Ytaoaegkfejlgkaa.Dsk
open Go.RowKit
/-- A disk and the log on it. -/
structure Sys (w : World) (d g0 lb : Nat) (S : Nat → Prop) (s : Dk) (c : Lc) : Prop where
  dsk : Dsk w d g0 s
  log : LogM w lb d S c
  sd : ¬ S d
  sg : ¬ S g0
  ld : lb ≠ d
  lg : lb ≠ g0
theorem Sys.keep {w w' : World} {d g0 lb : Nat} {S : Nat → Prop} {s : Dk} {c : Lc} (h : Sys w d g0 lb S s c) (hk : ∀ k, (k = d ∨ k = g0 ∨ k = lb ∨ S k) → k < w.heap.size → w'.heap[k]? = w.heap[k]?) (hz : w.heap.size ≤ w'.heap.size) : Sys w' d g0 lb S s c :=
  ⟨⟨(hk d (.inl rfl) h.dsk.blk.lt).trans h.dsk.blk, (hk g0 (.inr (.inl rfl)) h.dsk.row.lt).trans h.dsk.row, h.dsk.ne⟩, h.log.keep (fun k hS hl => hk k (.inr (.inr hS)) hl) hz, h.sd, h.sg, h.ld, h.lg⟩
theorem Sys.old {w w' : World} {d g0 lb : Nat} {S : Nat → Prop} {s : Dk} {c : Lc} (h : Sys w d g0 lb S s c) (hb : Below w.heap.size w w') : Sys w' d g0 lb S s c := h.keep (fun k _ hk => hb.block k hk) hb.size
/-- The disk does something. -/
theorem Sys.disk {w w' : World} {d g0 lb : Nat} {S : Nat → Prop} {s s' : Dk} {c : Lc} (h : Sys w d g0 lb S s c) (hd : Dsk w' d g0 s') (hb : But d g0 w w') : Sys w' d g0 lb S s' c :=
  ⟨hd, h.log.keep (fun k hk hl => hb.block k hl (by rintro rfl; rcases hk with hk | hk; exact h.ld hk.symm; exact h.sd hk) (by rintro rfl; rcases hk with hk | hk; exact h.lg hk.symm; exact h.sg hk)) hb.size, h.sd, h.sg, h.ld, h.lg⟩
def Lc.seen (c : Lc) (s : Dk) : Lc := { c with was := c.was || s.down }
theorem watch_any (w : World) (d g0 lb : Nat) (S : Nat → Prop) (s : Dk) (c : Lc) (h : Sys w d g0 lb S s c) :
    Calls Try.prog 28 #[.pointer (some ⟨lb, 0, none⟩)] w fun e w' => e = .returned (.bool (c.was || s.down)) ∧ Sys w' d g0 lb S s (c.seen s) ∧ Kp (fun k => k = lb) w w' ∧ w'.heap.size = w.heap.size := by
  obtain ⟨A, k, hb, hr⟩ := h.log.ex
  have c0 : w.cell? ⟨lb, 0, none⟩ = some (.pointer (some ⟨d, 0, none⟩)) := hb.cell 0
  have c2 : w.cell? ⟨lb, 2, none⟩ = some (.bool c.was) := hb.cell 2
  have f2 := hb.frozen 2
  have H := Lib.hid h
  have HB := Lib.hid hb
  have HR := Lib.hid hr
  have HU := Lib.hid (up_any w d g0 s h.dsk)
  have fin : ∀ b : Bool, (c.was || s.down) = b → Sys (w.setCell ⟨lb, 2, none⟩ (.bool b)) d g0 lb S s (c.seen s) ∧ Kp (fun k => k = lb) w (w.setCell ⟨lb, 2, none⟩ (.bool b)) ∧ (w.setCell ⟨lb, 2, none⟩ (.bool b)).heap.size = w.heap.size := fun b hbb => by
    have hkp := (Kp.refl (fun k => k = lb) w).put lb 2 (.bool b) rfl
    refine ⟨⟨⟨(hkp.block d H.out.dsk.blk.lt H.out.ld.symm).trans H.out.dsk.blk, (hkp.block g0 H.out.dsk.row.lt H.out.lg.symm).trans H.out.dsk.row, H.out.dsk.ne⟩, ⟨⟨A, k, ?_, HR.out.keep (fun i hi hl => hkp.block i hl (by rintro rfl; exact H.out.log.nlb hi)) hkp.size⟩, H.out.log.nlb⟩, H.out.sd, H.out.sg, H.out.ld, H.out.lg⟩, hkp, by simp [World.setCell]⟩
    have := HB.out.put 2 (.bool b)
    rw [← hbb] at this ⊢
    exact this
  have HF := Lib.hid fin
  clear h hb hr fin
  cases hw : c.was with
  | true =>
    rw [hw] at c2
    have HFt := Lib.hid (HF.out true (by rw [hw]; rfl))
    clear hw HF
    go_enter Try.func28, Try.ntmps28
    go_wp2
    go_ret
    exact ⟨rfl, HFt.out⟩
  | false =>
    rw [hw] at c2
    cases hd : s.down with
    | true =>
      rw [hd] at HU
      have HFt := Lib.hid (HF.out true (by rw [hw, hd]; rfl))
      clear hw HF hd
      go_enter Try.func28, Try.ntmps28
      go_wp2_with (go_at_call 18; (with_reducible refine HU.out.mono ?_); rintro e w' ⟨rfl, rfl⟩)
      go_ret
      exact ⟨rfl, HFt.out⟩
    | false =>
      rw [hd] at HU
      have HFt := Lib.hid (HF.out false (by rw [hw, hd]; rfl))
      clear hw HF hd
      go_enter Try.func28, Try.ntmps28
      go_wp2_with (go_at_call 18; (with_reducible refine HU.out.mono ?_); rintro e w' ⟨rfl, rfl⟩)
      go_ret
      exact ⟨rfl, HFt.out⟩
theorem room_any (w : World) (d g0 lb : Nat) (S : Nat → Prop) (s : Dk) (c : Lc) (h : Sys w d g0 lb S s c) (hq : c.q ≤ c.sz) (hz : c.sz ≤ 1000000) :
    Calls Try.prog 22 #[.pointer (some ⟨lb, 0, none⟩)] w fun e w' => e = .returned (.int .i64 ((c.sz - c.q : Nat) : Int)) ∧ Sys w' d g0 lb S s (c.seen s) ∧ Kp (fun k => k = lb) w w' := by
  have HW := Lib.hid (watch_any w d g0 lb S s c h)
  have e1 : IntKind.i64.wrap ((c.sz : Int) - c.q) = ((c.sz - c.q : Nat) : Int) := by rw [IntKind.wrap_i64]; omega
  have HE := Lib.hid (show ((c.sz : Int) - c.q) = ((c.sz - c.q : Nat) : Int) by omega)
  clear h
  go_enter Try.func22, Try.ntmps22
  go_wp2_with fail
  refine HW.out.mono ?_
  rintro e w1 ⟨rfl, h1, hk1, _⟩
  obtain ⟨A, k, hb, hr⟩ := h1.log.ex
  have c1 : w1.cell? ⟨lb, 1, none⟩ = some (.int .i64 (c.sz : Int)) := hb.cell 1
  have c6 : w1.cell? ⟨lb, 6, none⟩ = some (.int .i64 (c.q : Int)) := hb.cell 6
  have H1 := Lib.hid h1
  have HK := Lib.hid hk1
  clear h1 hk1 hb hr
  go_wp2
  go_quiet (fail)
  go_wp2
  go_ret
  exact ⟨by first | rfl | rw [HE.out], H1.out.old (below_drewN (Below.refl _ _) _), HK.out.trans (Kp.old (below_drewN (Below.refl _ _) _)) (fun _ _ h => h)⟩
theorem gen_any (w : World) (d g0 lb : Nat) (S : Nat → Prop) (s : Dk) (c : Lc) (h : Sys w d g0 lb S s c) :
    Calls Try.prog 17 #[.pointer (some ⟨lb, 0, none⟩)] w fun e w' => e = .returned (.int .i64 (c.g : Int)) ∧ Sys w' d g0 lb S s (c.seen s) ∧ Kp (fun k => k = lb) w w' := by
  have HW := Lib.hid (watch_any w d g0 lb S s c h)
  clear h
  go_enter Try.func17, Try.ntmps17
  go_wp2_with fail
  refine HW.out.mono ?_
  rintro e w1 ⟨rfl, h1, hk1, _⟩
  obtain ⟨A, k, hb, hr⟩ := h1.log.ex
  have c4 : w1.cell? ⟨lb, 4, none⟩ = some (.int .i64 (c.g : Int)) := hb.cell 4
  have H1 := Lib.hid h1
  have HK := Lib.hid hk1
  clear h1 hk1 hb hr
  go_wp2
  go_ret
  exact ⟨rfl, H1.out, HK.out⟩
end Go.Proofs.Ytaoaegkfejlgkaa.Dsk
