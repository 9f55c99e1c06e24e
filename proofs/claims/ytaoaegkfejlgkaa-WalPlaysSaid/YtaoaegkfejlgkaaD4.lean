/-
  Write in one contract; the contract of Copy of package disk.
-/
import Derived.Test.YtaoaegkfejlgkaaD3
namespace Go.Proofs.Ytaoaegkfejlgkaa.Dsk
open Go.RowKit
/-- A disk as the walks ask it: not too large, its fuse no less than 0. -/
structure Dk.ok (s : Dk) : Prop where
  len : s.l.length ≤ 2000000
  fw0 : 0 ≤ s.fw
  fw1 : s.fw ≤ 9223372036854775807
  fb0 : 0 ≤ s.fb
  wr : s.wr ≤ 2000000
theorem write_any (w : World) (d g : Nat) (s : Dk) (h : Dsk w d g s) (ho : s.ok) (a : Int) (b : List UInt8) (A : Option Addr) (c : Nat) (S : Nat → Prop) (hR : Rd w S A b) (hSd : ¬ S d) (hSg : ¬ S g) (hbc : b.length ≤ c) (ha : -9223372036854775808 ≤ a) (ha' : a ≤ 9223372036854775807) :
    Calls Try.prog 41 #[.pointer (some ⟨d, 0, none⟩), .int .i64 a, .slice A b.length c] w fun e w' => e = .returned (.int .i64 (s.write a b).1) ∧
      Dsk w' d g (s.write a b).2 ∧ But d g w w' ∧ w'.heap.size = w.heap.size := by
  by_cases he : s.err a b.length ≠ 0
  · refine (write_bad w d g s h a b A c ha ha' ho.len he).mono ?_
    rintro e w' ⟨rfl, rfl⟩
    unfold Dk.write
    rw [if_pos he]
    exact ⟨rfl, h, But.refl _ _ _, rfl⟩
  · have he' : s.err a b.length = 0 := by simpa using he
    have hd : s.down = false := by
      cases hx : s.down with
      | false => rfl
      | true => rw [Dk.err_down hx] at he'; cases he'
    have hx : ¬ (a < 0 ∨ (b.length : Int) < 0 ∨ (s.l.length : Int) - a < b.length) := fun hx => by rw [Dk.err_bad hd hx] at he'; cases he'
    obtain ⟨n, rfl⟩ : ∃ n : Nat, a = (n : Int) := ⟨a.toNat, by omega⟩
    have hl := ho.len
    unfold Dk.write
    rw [if_neg he, Int.toNat_natCast]
    by_cases hs : (s.set && s.fw == 0) = true
    · rw [if_pos hs]
      simp only [Bool.and_eq_true, beq_iff_eq] at hs
      exact write_torn w d g s h n b A c S hR hSd hSg ho.len hd (by omega) hbc hs.1 hs.2 ho.fb0 ho.wr
    · rw [if_neg hs]
      refine write_done w d g s h n b A c S hR hSd hSg ho.len hd (by omega) (fun h1 h2 => hs (by simp [h1, h2])) ho.fw0 ho.fw1 ho.wr
set_option maxRecDepth 100000 in
theorem copy_any (w : World) (d g : Nat) (s : Dk) (h : Dsk w d g s) (hl : s.l.length ≤ 2000000) :
    Calls Try.prog 35 #[.pointer (some ⟨d, 0, none⟩)] w fun e w' => e = .returned (.pointer (some ⟨w.heap.size, 0, none⟩)) ∧
      Dsk w' w.heap.size (w.heap.size + 1) s ∧ Below w.heap.size w w' ∧ w'.heap.size = w.heap.size + 2 := by
  have H := Lib.hid h
  have hdl : d < w.heap.size := h.blk.lt
  have h0 := h.c0
  have h1 := h.c1
  have h2 := h.c2
  have h3 := h.c3
  have h4 := h.c4
  have h5 := h.c5
  have hmk := run_zeros s.l.length hl
  have HZ : Hid ((List.replicate s.l.length (0 : UInt8)).length = s.l.length) := Lib.hid (by simp)
  generalize List.replicate s.l.length (0 : UInt8) = Z at *
  clear h
  go_enter Try.func35, Try.ntmps35
  go_wp2
  have HBk : Hid (Blk ((w.alloc (.cells #[.slice (some ⟨w.heap.size + 1, 0, none⟩) s.l.length s.l.length, .bool s.down, .int .i64 (s.wr : Nat), .bool s.set, .int .i64 s.fw, .int .i64 s.fb] 55)).alloc (.cells (bc Z).toArray 5)) w.heap.size 55 (s.cells (w.heap.size + 1))) :=
    Lib.hid ((Blk.new w 55 _ _ rfl).alloc _)
  have HBr : Hid (Blk ((w.alloc (.cells #[.slice (some ⟨w.heap.size + 1, 0, none⟩) s.l.length s.l.length, .bool s.down, .int .i64 (s.wr : Nat), .bool s.set, .int .i64 s.fw, .int .i64 s.fb] 55)).alloc (.cells (bc Z).toArray 5)) (w.heap.size + 1) 5 (bc Z)) :=
    Lib.hid (by simpa using Blk.new (w.alloc (.cells #[.slice (some ⟨w.heap.size + 1, 0, none⟩) s.l.length s.l.length, .bool s.down, .int .i64 (s.wr : Nat), .bool s.set, .int .i64 s.fw, .int .i64 s.fb] 55)) 5 _ _ (show (bc Z).toArray = _ from rfl))
  have HBb : Hid (Below w.heap.size w ((w.alloc (.cells #[.slice (some ⟨w.heap.size + 1, 0, none⟩) s.l.length s.l.length, .bool s.down, .int .i64 (s.wr : Nat), .bool s.set, .int .i64 s.fw, .int .i64 s.fb] 55)).alloc (.cells (bc Z).toArray 5))) :=
    Lib.hid (((Below.refl _ _).alloc (Nat.le_refl _) _).alloc (by simp) _)
  have HBz : Hid (((w.alloc (.cells #[.slice (some ⟨w.heap.size + 1, 0, none⟩) s.l.length s.l.length, .bool s.down, .int .i64 (s.wr : Nat), .bool s.set, .int .i64 s.fw, .int .i64 s.fb] 55)).alloc (.cells (bc Z).toArray 5)).heap.size = w.heap.size + 2) := Lib.hid (by simp)
  generalize ((w.alloc (.cells #[.slice (some ⟨w.heap.size + 1, 0, none⟩) s.l.length s.l.length, .bool s.down, .int .i64 (s.wr : Nat), .bool s.set, .int .i64 s.fw, .int .i64 s.fb] 55)).alloc (.cells (bc Z).toArray 5)) = w1 at *
  clear h0 h1 h2 h3 h4 h5 hmk
  have HD := Lib.hid (H.out.old HBb.out)
  have h0 := HD.out.c0
  have h1 : w1.cell? ⟨w.heap.size, 0, none⟩ = some (.slice (some ⟨w.heap.size + 1, 0, none⟩) s.l.length s.l.length) := HBk.out.cell 0
  go_still_tail 6, (by kernel_rfl)
  change wpList _ _ _ _ _ w1.drew
  clear h0 h1
  refine wpList_copy_but rfl (.tmp 15) (.tmp 19) 33 33 rfl 5 Try.underlying33 size5 _ _ _ _ _ _ rfl rfl (w.heap.size + 1) 0 (bc Z) 5 HBr.out (bc s.l) ?hn ?hpos ?hfit (bc_one _) ?_
  case hn => rw [bc_length]; show _ = min _ _; omega
  case hpos =>
    intro h0
    exact ⟨rfl, (Rd.of_blk (show Blk w1.drew g _ _ from HD.out.row)).all h0⟩
  case hfit => have := HZ.out; rw [bc_length, bc_length]; omega
  intro w2 HK2 HB2 HZ2
  go_wp2
  go_ret
  refine ⟨rfl, ⟨?_, ?_, by omega⟩, HBb.out.trans ?_, by rw [HZ2.out]; exact HBz.out⟩
  · exact Blk.but (show Blk w1.drew _ _ _ from HBk.out) (HB2.out (w.heap.size + 1)) (by omega) (by omega)
  · have := HK2.out
    rw [← bc_splice, splice_all _ _ HZ.out] at this
    exact this
  · have := (HB2.out (w.heap.size + 1)).below (B := w.heap.size) (show _ ≤ w1.heap.size by rw [HBz.out]; omega) (by omega) (by omega)
    exact ((Below.refl _ w1).drew).trans this
end Go.Proofs.Ytaoaegkfejlgkaa.Dsk
