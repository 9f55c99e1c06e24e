/-
  The contracts of fail and Write of package disk.
-/
import Derived.Test.YtaoaegkfejlgkaaD2
import Derived.StillTailTactics
namespace Go.Proofs.Ytaoaegkfejlgkaa.Dsk
open Go.RowKit
/-- A write that is done, and one that the fuse ends. -/
def Dk.done (s : Dk) (a : Nat) (b : List UInt8) : Dk := { s with l := splice s.l a b, wr := s.wr + 1, fw := if s.set then s.fw - 1 else s.fw }
def Dk.torn (s : Dk) (a : Nat) (b : List UInt8) : Dk := { s with l := splice s.l a (b.take s.fb.toNat), wr := s.wr + 1, down := true }
/-- What a write answers, and the disk behind it. -/
def Dk.write (s : Dk) (a : Int) (b : List UInt8) : Int × Dk := if s.err a b.length ≠ 0 then (s.err a b.length, s) else if s.set && s.fw == 0 then (20, s.torn a.toNat b) else (0, s.done a.toNat b)
theorem splice_length (l b : List UInt8) (a : Nat) (h : a + b.length ≤ l.length) : (splice l a b).length = l.length := length_splice l a b h
set_option maxRecDepth 100000 in
theorem fail_any (w : World) (d g : Nat) (s : Dk) (h : Dsk w d g s) (a : Nat) (b : List UInt8) (A : Option Addr) (c : Nat) (S : Nat → Prop) (hR : Rd w S A b) (hSd : ¬ S d) (hSg : ¬ S g) (hl : s.l.length ≤ 2000000) (hab : a + b.length ≤ s.l.length) (hbc : b.length ≤ c) (h0 : 0 ≤ s.fb) :
    Calls Try.prog 54 #[.pointer (some ⟨d, 0, none⟩), .int .i64 (a : Int), .slice A b.length c] w fun e w' => e = .returned (.int .i64 20) ∧
      Dsk w' d g { s with l := splice s.l a (b.take s.fb.toNat), down := true } ∧ But d g w w' ∧ w'.heap.size = w.heap.size := by
  have H := Lib.hid h
  have h1 := h.c0
  have h2 := h.c5
  obtain ⟨P, hP, hP'⟩ := run_from g s.l.length a (by omega)
  have HP := Lib.hid hP'
  obtain ⟨k, hk⟩ : ∃ k, k = min b.length s.fb.toNat := ⟨_, rfl⟩
  have hmin : (if s.fb < (b.length : Int) then s.fb else (b.length : Int)) = (k : Int) := by split <;> omega
  have hkc : k ≤ c := by omega
  have hup := run_upto A b.length c k hkc
  have HKb : Hid (k ≤ b.length) := Lib.hid (by omega)
  have HT : Hid (b.take s.fb.toNat = b.take k) := Lib.hid (by
    rw [hk]
    by_cases hx : b.length ≤ s.fb.toNat
    · rw [Nat.min_eq_left hx, List.take_of_length_le hx, List.take_of_length_le (Nat.le_refl _)]
    · rw [Nat.min_eq_right (by omega)])
  have HR := Lib.hid hR
  have HAB := Lib.hid hab
  clear hP' h hk hR hab
  go_enter Try.func54, Try.ntmps54
  go_wp2
  go_still_tail 16, (by kernel_rfl)
  change wpList _ _ _ _ _ w.drew
  have HD : Hid (But d g w w.drew) := Lib.hid (But.refl d g w).drew
  have HDk : Hid (Dsk w.drew d g s) := Lib.hid ⟨H.out.blk, H.out.row, H.out.ne⟩
  have HDR : Hid (Rd w.drew S A b) := Lib.hid (HR.out.but HD.out hSd hSg)
  have HDz : Hid (w.drew.heap.size = w.heap.size) := Lib.hid rfl
  generalize w.drew = w1 at *
  clear h1 h2
  refine wpList_copy_but rfl (.tmp 12) (.tmp 22) 33 33 rfl 5 Try.underlying33 size5 _ _ _ _ _ _ rfl rfl g a (bc s.l) 5 HDk.out.row (bc (b.take k)) ?hn ?hpos ?hfit (bc_one _) ?_
  case hn => have := HAB.out; have := HKb.out; rw [bc_length, List.length_take]; show _ = min _ _; omega
  case hpos =>
    intro h0
    have := HAB.out
    have := HKb.out
    rw [bc_length, List.length_take] at h0
    exact ⟨HP.out (by omega), HDR.out.cells k (by rw [bc_length, List.length_take]; omega)⟩
  case hfit => have := HAB.out; have := HKb.out; rw [bc_length, bc_length, List.length_take]; omega
  intro w2 HK2 HB2 HZ2
  have hlen : (splice s.l a (b.take k)).length = s.l.length := splice_length _ _ _ (by have := HAB.out; rw [List.length_take]; omega)
  have HE : Hid (Dsk w2 d g { s with l := splice s.l a (b.take k) }) := Lib.hid (by
    refine ⟨?_, by have := HK2.out; rw [← bc_splice] at this; exact this, HDk.out.ne⟩
    have := HDk.out.blk.but (HB2.out g) HDk.out.ne HDk.out.ne
    simpa [Dk.cells, hlen] using this)
  have h1 : w2.cell? ⟨d, 1, none⟩ = some (.bool s.down) := HE.out.c1
  have f1 := HE.out.fz 1
  have HB := Lib.hid (HD.out.trans (HB2.out d))
  clear hlen
  go_wp2
  go_ret
  refine ⟨rfl, ?_, HB.out.putd _ _, by simp [World.setCell, HZ2.out, HDz.out]⟩
  rw [HT.out]
  exact ⟨by have := HE.out.blk.put 1 (.bool true); simpa [Dk.cells] using this, HE.out.row.other _ _ HE.out.ne.symm, HE.out.ne⟩
/-- Write, where it can't be. -/
theorem write_bad (w : World) (d g : Nat) (s : Dk) (h : Dsk w d g s) (a : Int) (b : List UInt8) (A : Option Addr) (c : Nat) (ha : -9223372036854775808 ≤ a) (ha' : a ≤ 9223372036854775807) (hl : s.l.length ≤ 2000000) (he : s.err a b.length ≠ 0) :
    Calls Try.prog 41 #[.pointer (some ⟨d, 0, none⟩), .int .i64 a, .slice A b.length c] w fun e w' => e = .returned (.int .i64 (s.err a b.length)) ∧ w = w' := by
  have hc := check_any w d g s h a b.length ha ha' hl
  clear h
  have hz : (s.err a b.length != 0) = true := by simpa using he
  generalize s.err a b.length = E at *
  go_enter Try.func41, Try.ntmps41
  go_wp2_with (go_at_call 37; refine hc.mono ?_; rintro e w' ⟨rfl, rfl⟩)
  go_ret
  exact ⟨rfl, rfl⟩
/-- Write, where the fuse ends. -/
theorem write_torn (w : World) (d g : Nat) (s : Dk) (h : Dsk w d g s) (a : Nat) (b : List UInt8) (A : Option Addr) (c : Nat) (S : Nat → Prop) (hR : Rd w S A b) (hSd : ¬ S d) (hSg : ¬ S g) (hl : s.l.length ≤ 2000000) (hd : s.down = false) (hab : a + b.length ≤ s.l.length) (hbc : b.length ≤ c) (hset : s.set = true) (hfw : s.fw = 0) (h0 : 0 ≤ s.fb) (hwr : s.wr ≤ 2000000) :
    Calls Try.prog 41 #[.pointer (some ⟨d, 0, none⟩), .int .i64 (a : Int), .slice A b.length c] w fun e w' => e = .returned (.int .i64 20) ∧
      Dsk w' d g (s.torn a b) ∧ But d g w w' ∧ w'.heap.size = w.heap.size := by
  have hc := check_any w d g s h a b.length (by omega) (by omega) hl
  rw [Dk.err_ok hd (by omega)] at hc
  have h2 := h.c2
  have f2 := h.fz 2
  have h3 := h.c3
  rw [hset] at h3
  have h4 := h.c4
  rw [hfw] at h4
  have H1 : Hid (Dsk (w.setCell ⟨d, 2, none⟩ (.int .i64 ((s.wr : Int) + 1))) d g { s with wr := s.wr + 1 }) := Lib.hid ⟨by have := h.blk.put 2 (.int .i64 ((s.wr : Int) + 1)); simpa [Dk.cells] using this, h.row.other _ _ h.ne.symm, h.ne⟩
  have HB1 : Hid (But d g w (w.setCell ⟨d, 2, none⟩ (.int .i64 ((s.wr : Int) + 1)))) := Lib.hid ((But.refl d g w).putd _ _)
  have HR1 := Lib.hid (hR.but HB1.out hSd hSg)
  have HAB := Lib.hid hab
  have Hfb := Lib.hid h0
  clear h hd hR hset hfw hab
  go_enter Try.func41, Try.ntmps41
  go_wp2_with (first
    | (go_at_call 37; refine hc.mono ?_; rintro e w' ⟨rfl, rfl⟩)
    | (go_at_call 54; refine (fail_any _ d g _ H1.out a b A c S HR1.out hSd hSg hl HAB.out hbc Hfb.out).mono ?_; rintro e w' ⟨rfl, hs, hb, hz⟩))
  go_ret
  exact ⟨rfl, hs, HB1.out.trans hb, by rw [hz]; simp [World.setCell]⟩
/-- Write, where it is done. -/
theorem write_done (w : World) (d g : Nat) (s : Dk) (h : Dsk w d g s) (a : Nat) (b : List UInt8) (A : Option Addr) (c : Nat) (S : Nat → Prop) (hR : Rd w S A b) (hSd : ¬ S d) (hSg : ¬ S g) (hl : s.l.length ≤ 2000000) (hd : s.down = false) (hab : a + b.length ≤ s.l.length) (hset : s.set = true → s.fw ≠ 0) (hf0 : 0 ≤ s.fw) (hf1 : s.fw ≤ 9223372036854775807) (hwr : s.wr ≤ 2000000) :
    Calls Try.prog 41 #[.pointer (some ⟨d, 0, none⟩), .int .i64 (a : Int), .slice A b.length c] w fun e w' => e = .returned (.int .i64 0) ∧
      Dsk w' d g (s.done a b) ∧ But d g w w' ∧ w'.heap.size = w.heap.size := by
  have hc := check_any w d g s h a b.length (by omega) (by omega) hl
  rw [Dk.err_ok hd (by omega)] at hc
  obtain ⟨P, hP, hP'⟩ := run_from g s.l.length a (by omega)
  have HP := Lib.hid hP'
  have h0 := h.c0
  have h2 := h.c2
  have f2 := h.fz 2
  have h3 := h.c3
  have h4 := h.c4
  have f4 := h.fz 4
  have hlen : Hid ((splice s.l a b).length = s.l.length) := Lib.hid (splice_length _ _ _ hab)
  have HAB := Lib.hid hab
  by_cases hs : s.set = true
  · have hfz := hset hs
    rw [hs] at h3
    have hfz' : (s.fw == 0) = false := by simpa using hfz
    have hfp : 1 ≤ s.fw := by omega
    have H1 : Hid (Dsk ((w.setCell ⟨d, 2, none⟩ (.int .i64 ((s.wr : Int) + 1))).setCell ⟨d, 4, none⟩ (.int .i64 (s.fw - 1))) d g { s with wr := s.wr + 1, fw := s.fw - 1 }) :=
      Lib.hid ⟨by have := (h.blk.put 2 (.int .i64 ((s.wr : Int) + 1))).put 4 (.int .i64 (s.fw - 1)); simpa [Dk.cells] using this, (h.row.other _ _ h.ne.symm).other _ _ h.ne.symm, h.ne⟩
    have HB1 : Hid (But d g w ((w.setCell ⟨d, 2, none⟩ (.int .i64 ((s.wr : Int) + 1))).setCell ⟨d, 4, none⟩ (.int .i64 (s.fw - 1)))) := Lib.hid (((But.refl d g w).putd _ _).putd _ _)
    have HR1 := Lib.hid (hR.but HB1.out hSd hSg)
    have HS := Lib.hid hs
    clear h hd hR hset hs hab hP' hfz
    go_enter Try.func41, Try.ntmps41
    go_wp2_with (first
      | (go_at_call 37; refine hc.mono ?_; rintro e w' ⟨rfl, rfl⟩)
      | ((with_reducible refine wpList_copy_but rfl (.tmp 52) (.tmp 53) 33 33 rfl 5 Try.underlying33 size5 _ _ _ _ _ _ rfl rfl g a (bc s.l) 5 H1.out.row (bc b) ?hn ?hpos ?hfit (bc_one _) ?_); rotate_right; intro w2 HK2 HB2 HZ2))
    case hn => have := HAB.out; rw [bc_length]; show _ = min _ _; omega
    case hpos =>
      intro h0
      have := HAB.out
      rw [bc_length] at h0
      exact ⟨HP.out (by omega), HR1.out.all (by rw [bc_length]; exact h0)⟩
    case hfit => have := HAB.out; rw [bc_length, bc_length]; exact this
    go_ret
    refine ⟨rfl, ⟨?_, by have := HK2.out; rw [← bc_splice] at this; exact this, H1.out.ne⟩, HB1.out.trans (HB2.out d), by rw [HZ2.out]; simp [World.setCell]⟩
    have := H1.out.blk.but (HB2.out g) H1.out.ne H1.out.ne
    simpa [Dk.cells, Dk.done, hlen.out, HS.out] using this
  · have hs : s.set = false := by simpa using hs
    rw [hs] at h3
    have H1 : Hid (Dsk (w.setCell ⟨d, 2, none⟩ (.int .i64 ((s.wr : Int) + 1))) d g { s with wr := s.wr + 1 }) :=
      Lib.hid ⟨by have := h.blk.put 2 (.int .i64 ((s.wr : Int) + 1)); simpa [Dk.cells] using this, h.row.other _ _ h.ne.symm, h.ne⟩
    have HB1 : Hid (But d g w (w.setCell ⟨d, 2, none⟩ (.int .i64 ((s.wr : Int) + 1)))) := Lib.hid ((But.refl d g w).putd _ _)
    have HR1 := Lib.hid (hR.but HB1.out hSd hSg)
    have HS := Lib.hid hs
    clear h hd hR hset hs hab hP'
    go_enter Try.func41, Try.ntmps41
    go_wp2_with (first
      | (go_at_call 37; refine hc.mono ?_; rintro e w' ⟨rfl, rfl⟩)
      | ((with_reducible refine wpList_copy_but rfl (.tmp 52) (.tmp 53) 33 33 rfl 5 Try.underlying33 size5 _ _ _ _ _ _ rfl rfl g a (bc s.l) 5 H1.out.row (bc b) ?hn ?hpos ?hfit (bc_one _) ?_); rotate_right; intro w2 HK2 HB2 HZ2))
    case hn => have := HAB.out; rw [bc_length]; show _ = min _ _; omega
    case hpos =>
      intro h0
      have := HAB.out
      rw [bc_length] at h0
      exact ⟨HP.out (by omega), HR1.out.all (by rw [bc_length]; exact h0)⟩
    case hfit => have := HAB.out; rw [bc_length, bc_length]; exact this
    go_ret
    refine ⟨rfl, ⟨?_, by have := HK2.out; rw [← bc_splice] at this; exact this, H1.out.ne⟩, HB1.out.trans (HB2.out d), by rw [HZ2.out]; simp [World.setCell]⟩
    have := H1.out.blk.but (HB2.out g) H1.out.ne H1.out.ne
    simpa [Dk.cells, Dk.done, hlen.out, HS.out] using this
end Go.Proofs.Ytaoaegkfejlgkaa.Dsk
