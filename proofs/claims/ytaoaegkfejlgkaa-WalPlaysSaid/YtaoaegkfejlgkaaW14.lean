/-
  The contract of the log's perform of package wal: what is deferred notes whether the disk is down.
-/
import Derived.Test.YtaoaegkfejlgkaaW13
import Derived.Defers
namespace Go.Proofs.Ytaoaegkfejlgkaa.Dsk
open Go.RowKit
theorem watch_d (u : FrameMode) (w : World) (d g0 lb : Nat) (S : Nat → Prop) (s : Dk) (c : Lc) (h : Sys w d g0 lb S s c) :
    CallsD Try.prog 28 #[.pointer (some ⟨lb, 0, none⟩)] u w fun e u' w' => u' = u ∧ e = .returned (.bool (c.was || s.down)) ∧ Sys w' d g0 lb S s (c.seen s) ∧ Kp (fun k => k = lb) w w' ∧ w'.heap.size = w.heap.size := by
  obtain ⟨A, k, hb, hr⟩ := h.log.ex
  have c0 : w.cell? ⟨lb, 0, none⟩ = some (.pointer (some ⟨d, 0, none⟩)) := hb.cell 0
  have c2 : w.cell? ⟨lb, 2, none⟩ = some (.bool c.was) := hb.cell 2
  have f2 := hb.frozen 2
  have H := Lib.hid h
  have HB := Lib.hid hb
  have HR := Lib.hid hr
  have HU := Lib.hid (up_any w d g0 s h.dsk)
  have fin : ∀ b : Bool, (c.was || s.down) = b → Sys (w.setCell ⟨lb, 2, none⟩ (.bool b)) d g0 lb S s (c.seen s) ∧ Kp (fun k => k = lb) w (w.setCell ⟨lb, 2, none⟩ (.bool b)) ∧ (w.setCell ⟨lb, 2, none⟩ (.bool b)).heap.size = w.heap.size := fun b hbb => by
    have hkp := (Kp.refl (fun k => k = lb) w).put lb 2 (.bool b) rfl
    refine ⟨⟨⟨(hkp.block d H.out.dsk.blk.lt H.out.ld.symm).trans H.out.dsk.blk, (hkp.block g0 H.out.dsk.row.lt H.out.lg.symm).trans H.out.dsk.row, H.out.dsk.ne⟩, ⟨⟨A, k, ?_, HR.out.keep (fun i hi hl => hkp.block i hl (by rintro rfl; exact H.out.log.nlb hi)) hkp.size⟩, H.out.log.nlb⟩, H.out.sd, H.out.sg, H.out.ld, H.out.lg⟩, hkp, by simp [World.setCell]⟩
    have := HB.out.put 2 (.bool b)
    rw [← hbb] at this ⊢
    exact this
  have HF := Lib.hid fin
  clear h hb hr fin
  cases hw : c.was with
  | true =>
    rw [hw] at c2
    have HFt := Lib.hid (HF.out true (by rw [hw]; rfl))
    clear hw HF
    go_enter_d Try.func28, Try.ntmps28
    go_wp2
    go_ret
    exact ⟨rfl, HFt.out⟩
  | false =>
    rw [hw] at c2
    cases hd : s.down with
    | true =>
      rw [hd] at HU
      have HFt := Lib.hid (HF.out true (by rw [hw, hd]; rfl))
      clear hw HF hd
      go_enter_d Try.func28, Try.ntmps28
      go_wp2_with (go_at_call 18; (with_reducible refine HU.out.mono ?_); rintro e w' ⟨rfl, rfl⟩)
      go_ret
      exact ⟨rfl, HFt.out⟩
    | false =>
      rw [hd] at HU
      have HFt := Lib.hid (HF.out false (by rw [hw, hd]; rfl))
      clear hw HF hd
      go_enter_d Try.func28, Try.ntmps28
      go_wp2_with (go_at_call 18; (with_reducible refine HU.out.mono ?_); rintro e w' ⟨rfl, rfl⟩)
      go_ret
      exact ⟨rfl, HFt.out⟩
set_option maxRecDepth 100000
set_option maxHeartbeats 2000000 in
theorem lperform_any (w : World) (d g0 lb : Nat) (S : Nat → Prop) (s : Dk) (c : Lc) (h : Sys w d g0 lb S s c) (n : Nat) (ho : s.okn n) (S' : Nat → Prop) (A : Option Addr) (k : Nat) (ws : List Wr) (hR : RdWs w S' A ws) (hd : ¬ S' d) (hg : ¬ S' g0) (hn : n + ws.length ≤ 2000000) (ha : ∀ x ∈ ws, x.1 ≤ 2000000) :
    Calls Try.prog 31 #[.pointer (some ⟨lb, 0, none⟩), .slice A ws.length k] w fun e w' => e = .returned (.int .i64 (perf s ws).1) ∧ Sys w' d g0 lb S (perf s ws).2 (c.seen (perf s ws).2) ∧ Kp (fun i => i = d ∨ i = g0 ∨ i = lb) w w' := by
  have HP := Lib.hid (perform_any w d g0 s h.dsk n ho S' A k ws hR hd hg hn ha)
  obtain ⟨A', k', hb, hr⟩ := h.log.ex
  have c0 : w.cell? ⟨lb, 0, none⟩ = some (.pointer (some ⟨d, 0, none⟩)) := hb.cell 0
  have H := Lib.hid h
  clear h ho hR hd hg hn ha hb hr
  generalize perf s ws = T at *
  go_enter_defers Try.func31, Try.ntmps31
  go_wp2_with fail
  refine HP.out.mono ?_
  rintro e w1 ⟨rfl, hD, hB⟩
  have H1 := Lib.hid (H.out.disk hD hB)
  have HB := Lib.hid hB
  clear hD hB
  go_wp2
  refine leaves_cons (f := 28) (args := #[.pointer (some ⟨lb, 0, none⟩)]) (by simp) (by simp [go_sem]) ?_
  refine (watch_d .returning w1 d g0 lb S T.2 c H1.out).mono ?_
  rintro e u' w2 ⟨rfl, rfl, h2, hk2, hz2⟩
  exact ⟨_, results_tmp rfl _ _ _, rfl, h2, (Kp.of_but HB.out).mono (S' := fun i => i = d ∨ i = g0 ∨ i = lb) (fun i _ hi => by rcases hi with hi | hi; exact .inl hi; exact .inr (.inl hi)) |>.trans hk2 (fun i _ hi => .inr (.inr hi))⟩
end Go.Proofs.Ytaoaegkfejlgkaa.Dsk
