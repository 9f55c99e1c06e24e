/-
  A disk in memory, and the contracts of New, Size, Up, Writes, check, Light and Start of package disk.
-/
import Derived.Test.YtaoaegkfejlgkaaDMem
namespace Go.Proofs.Ytaoaegkfejlgkaa.Dsk
open Go.RowKit
/-- A disk: its bytes, is it down, its writes, its fuse. -/
structure Dk where
  l : List UInt8
  down : Bool
  wr : Nat
  set : Bool
  fw : Int
  fb : Int
def Dk.cells (s : Dk) (g : Nat) : List Value := [.slice (some ⟨g, 0, none⟩) s.l.length s.l.length, .bool s.down, .int .i64 (s.wr : Nat), .bool s.set, .int .i64 s.fw, .int .i64 s.fb]
/-- The disk at block d, its bytes at block g. -/
structure Dsk (w : World) (d g : Nat) (s : Dk) : Prop where
  blk : Blk w d 55 (s.cells g)
  row : Blk w g 5 (bc s.l)
  ne : d ≠ g
section
variable {w w' : World} {d g : Nat} {s : Dk}
theorem Dsk.c0 (h : Dsk w d g s) : w.cell? ⟨d, 0, none⟩ = some (.slice (some ⟨g, 0, none⟩) s.l.length s.l.length) := h.blk.cell 0
theorem Dsk.c1 (h : Dsk w d g s) : w.cell? ⟨d, 1, none⟩ = some (.bool s.down) := h.blk.cell 1
theorem Dsk.c2 (h : Dsk w d g s) : w.cell? ⟨d, 2, none⟩ = some (.int .i64 (s.wr : Nat)) := h.blk.cell 2
theorem Dsk.c3 (h : Dsk w d g s) : w.cell? ⟨d, 3, none⟩ = some (.bool s.set) := h.blk.cell 3
theorem Dsk.c4 (h : Dsk w d g s) : w.cell? ⟨d, 4, none⟩ = some (.int .i64 s.fw) := h.blk.cell 4
theorem Dsk.c5 (h : Dsk w d g s) : w.cell? ⟨d, 5, none⟩ = some (.int .i64 s.fb) := h.blk.cell 5
theorem Dsk.fz (h : Dsk w d g s) (i : Nat) : w.frozen? ⟨d, i, none⟩ = false := h.blk.frozen i
theorem Dsk.below {B : Nat} (h : Dsk w d g s) (hb : Below B w w') (hd : d < B) (hg : g < B) : Dsk w' d g s := ⟨h.blk.below hb hd, h.row.below hb hg, h.ne⟩
theorem Dsk.old (h : Dsk w d g s) (hb : Below w.heap.size w w') : Dsk w' d g s := h.below hb h.blk.lt h.row.lt
theorem Dsk.but {d' g' : Nat} (h : Dsk w d g s) (hb : But d' g' w w') (h1 : d ≠ d') (h2 : d ≠ g') (h3 : g ≠ d') (h4 : g ≠ g') : Dsk w' d g s := ⟨h.blk.but hb h1 h2, h.row.but hb h3 h4, h.ne⟩
end
/-- Why n bytes at a place can't be read or written, or 0. -/
def Dk.err (s : Dk) (at' n : Int) : Int := if s.down then 20 else if at' < 0 ∨ n < 0 ∨ (s.l.length : Int) - at' < n then 12 else 0
theorem Dk.err_down {s : Dk} (h : s.down = true) (a n : Int) : s.err a n = 20 := by simp [Dk.err, h]
theorem Dk.err_bad {s : Dk} (h : s.down = false) {a n : Int} (hb : a < 0 ∨ n < 0 ∨ (s.l.length : Int) - a < n) : s.err a n = 12 := by simp [Dk.err, h, hb]
theorem Dk.err_ok {s : Dk} (h : s.down = false) {a n : Int} (hb : ¬ (a < 0 ∨ n < 0 ∨ (s.l.length : Int) - a < n)) : s.err a n = 0 := by simp [Dk.err, h, hb]
theorem size_any (w : World) (d g : Nat) (s : Dk) (h : Dsk w d g s) : Calls Try.prog 24 #[.pointer (some ⟨d, 0, none⟩)] w fun e w' => e = .returned (.int .i64 (s.l.length : Nat)) ∧ w = w' := by
  have h0 := h.c0
  clear h
  go_enter Try.func24, Try.ntmps24
  go_wp2
  go_ret
  exact ⟨rfl, rfl⟩
theorem up_any (w : World) (d g : Nat) (s : Dk) (h : Dsk w d g s) : Calls Try.prog 18 #[.pointer (some ⟨d, 0, none⟩)] w fun e w' => e = .returned (.bool (!s.down)) ∧ w = w' := by
  have h0 := h.c1
  clear h
  go_enter Try.func18, Try.ntmps18
  go_wp2
  go_ret
  exact ⟨rfl, rfl⟩
theorem check_any (w : World) (d g : Nat) (s : Dk) (h : Dsk w d g s) (a n : Int) (ha : -9223372036854775808 ≤ a) (ha' : a ≤ 9223372036854775807) (hl : s.l.length ≤ 2000000) :
    Calls Try.prog 37 #[.pointer (some ⟨d, 0, none⟩), .int .i64 a, .int .i64 n] w fun e w' => e = .returned (.int .i64 (s.err a n)) ∧ w = w' := by
  have h0 := h.c0
  have h1 := h.c1
  clear h
  by_cases hd : s.down = true
  · rw [Dk.err_down hd]
    rw [hd] at h1
    clear hd
    go_enter Try.func37, Try.ntmps37
    go_wp2
    go_ret
    exact ⟨rfl, rfl⟩
  have hd : s.down = false := by simpa using hd
  rw [hd] at h1
  by_cases hb : a < 0 ∨ n < 0 ∨ (s.l.length : Int) - a < n
  · rw [Dk.err_bad hd hb]
    clear hd
    by_cases h2 : a < 0
    · clear hb
      go_enter Try.func37, Try.ntmps37
      go_wp2
      go_ret
      exact ⟨rfl, rfl⟩
    by_cases h3 : n < 0
    · clear hb
      go_enter Try.func37, Try.ntmps37
      go_wp2
      go_ret
      exact ⟨rfl, rfl⟩
    have h4 : (s.l.length : Int) - a < n := by omega
    have h5 : 0 ≤ a := by omega
    clear hb h2
    go_enter Try.func37, Try.ntmps37
    go_wp2
    go_ret
    exact ⟨rfl, rfl⟩
  · rw [Dk.err_ok hd hb]
    have h2 : ¬ a < 0 := by omega
    have h3 : ¬ n < 0 := by omega
    have h4 : ¬ (s.l.length : Int) - a < n := by omega
    have h5 : 0 ≤ a := by omega
    clear hb hd
    go_enter Try.func37, Try.ntmps37
    go_wp2
    go_ret
    exact ⟨rfl, rfl⟩
theorem new_bad (w : World) (n : Int) (h : n < 1024 ∨ 1048576 < n) : Calls Try.prog 10 #[.int .i64 n] w fun e w' => e = .returned (.tuple #[.pointer none, .int .i64 12]) ∧ w = w' := by
  by_cases h1 : n < 1024
  · clear h
    go_enter Try.func10, Try.ntmps10
    go_wp2
    go_ret2
    exact ⟨rfl, rfl⟩
  · have h2 : 1048576 < n := by omega
    clear h
    go_enter Try.func10, Try.ntmps10
    go_wp2
    go_ret2
    exact ⟨rfl, rfl⟩
theorem info5 : (Try.prog.info? 5).map (fun i => (i.zero, i.size, i.bytes)) = some (some (.int .u8 0), 1, 1) := by kernel_rfl
theorem made_zeros (n : Nat) : madeCells (Value.int .u8 0).cells n = (bc (List.replicate n 0)).toArray := by
  apply Array.ext
  · simp [size_madeCells, bc_zero]
  · intro i h1 h2
    simp [madeCells, bc_zero, Value.cells, Nat.mod_one]
/-- make([]byte, n). -/
theorem run_zeros (n : Nat) (hn : n ≤ 2000000) (w : World) :
    (Instr.makeSlice 33 (.int .i64 (n : Int)) (.int .i64 (n : Int))).run Try.prog w = .ok (.slice (some ⟨w.heap.size, 0, none⟩) n n) (w.alloc (.cells (bc (List.replicate n 0)).toArray 5)) := by
  obtain ⟨i0, hi0, hz0, hz1, hz2⟩ := info_parts info5
  rw [run_make (P := Try.prog) w 33 5 i0 _ Try.underlying33 hi0 hz0 .i64 .i64 _ _ (by omega) (by omega) (by rw [hz2]; omega) (by omega)]
  rw [hz1, Int.toNat_natCast, Nat.mul_one, made_zeros]
theorem new_ok (w : World) (n : Nat) (h1 : 1024 ≤ n) (h2 : n ≤ 1048576) : Calls Try.prog 10 #[.int .i64 (n : Int)] w fun e w' => e = .returned (.tuple #[.pointer (some ⟨w.heap.size + 1, 0, none⟩), .int .i64 0]) ∧
    Dsk w' (w.heap.size + 1) w.heap.size ⟨List.replicate n 0, false, 0, false, 0, 0⟩ ∧ Below w.heap.size w w' ∧ w'.heap.size = w.heap.size + 2 := by
  have h1' : ¬ (n : Int) < 1024 := by omega
  have h2' : ¬ (1048576 : Int) < n := by omega
  have hmk := run_zeros n (by omega)
  have HL := Lib.hid (List.length_replicate (n := n) (a := (0 : UInt8)))
  generalize List.replicate n (0 : UInt8) = L at *
  generalize hC : (bc L).toArray = C at *
  have HC := Lib.hid hC
  clear hC
  go_enter Try.func10, Try.ntmps10
  go_wp2
  go_ret2
  refine ⟨by simp, ⟨?_, ?_, by omega⟩, ((Below.refl _ _).alloc (Nat.le_refl _) _).alloc (by simp) _, by simp⟩
  · have := Blk.new (w.alloc (.cells C 5)) 55 _ _ (show ((Dk.mk L false 0 false 0 0).cells w.heap.size).toArray = _ from rfl)
    simpa [Dk.cells, HL.out] using this
  · rw [← HC.out]
    exact (Blk.new w 5 _ _ rfl).alloc _
theorem light_bad (w : World) (d : Nat) (a n : Int) (h : a < 0 ∨ n < 0) : Calls Try.prog 12 #[.pointer (some ⟨d, 0, none⟩), .int .i64 a, .int .i64 n] w fun e w' => e = .returned (.int .i64 12) ∧ w = w' := by
  by_cases h1 : a < 0
  · clear h
    go_enter Try.func12, Try.ntmps12
    go_wp2
    go_ret
    exact ⟨rfl, rfl⟩
  · have h2 : n < 0 := by omega
    clear h
    go_enter Try.func12, Try.ntmps12
    go_wp2
    go_ret
    exact ⟨rfl, rfl⟩
theorem light_ok (w : World) (d g : Nat) (s : Dk) (h : Dsk w d g s) (a n : Int) (h1 : 0 ≤ a) (h2 : 0 ≤ n) : Calls Try.prog 12 #[.pointer (some ⟨d, 0, none⟩), .int .i64 a, .int .i64 n] w fun e w' =>
    e = .returned (.int .i64 0) ∧ Dsk w' d g { s with set := true, fw := a, fb := n } ∧ But d g w w' ∧ w'.heap.size = w.heap.size := by
  have h3 := h.c3
  have h4 := h.c4
  have h5 := h.c5
  have f3 := h.fz 3
  have f4 := h.fz 4
  have f5 := h.fz 5
  have H := Lib.hid h
  clear h
  have h1' : ¬ a < 0 := by omega
  have h2' : ¬ n < 0 := by omega
  go_enter Try.func12, Try.ntmps12
  go_wp2
  go_ret
  refine ⟨rfl, ⟨?_, ((H.out.row.other _ _ H.out.ne.symm).other _ _ H.out.ne.symm).other _ _ H.out.ne.symm, H.out.ne⟩, (((But.refl d g w).putd _ _).putd _ _).putd _ _, by simp [World.setCell]⟩
  have := ((H.out.blk.put 3 (.bool true)).put 4 (.int .i64 a)).put 5 (.int .i64 n)
  simpa [Dk.cells] using this
theorem start_any (w : World) (d g : Nat) (s : Dk) (h : Dsk w d g s) : Calls Try.prog 13 #[.pointer (some ⟨d, 0, none⟩)] w fun e w' =>
    e = .returned (.tuple #[]) ∧ Dsk w' d g { s with down := false, set := false, fw := 0, fb := 0 } ∧ But d g w w' ∧ w'.heap.size = w.heap.size := by
  have h1 := h.c1
  have h3 := h.c3
  have h4 := h.c4
  have h5 := h.c5
  have f1 := h.fz 1
  have f3 := h.fz 3
  have f4 := h.fz 4
  have f5 := h.fz 5
  have H := Lib.hid h
  clear h
  go_enter Try.func13, Try.ntmps13
  go_wp2
  go_end0
  refine ⟨rfl, ⟨?_, (((H.out.row.other _ _ H.out.ne.symm).other _ _ H.out.ne.symm).other _ _ H.out.ne.symm).other _ _ H.out.ne.symm, H.out.ne⟩, ((((But.refl d g w).putd _ _).putd _ _).putd _ _).putd _ _, by simp [World.setCell]⟩
  have := (((H.out.blk.put 1 (.bool false)).put 3 (.bool false)).put 4 (.int .i64 0)).put 5 (.int .i64 0)
  simpa [Dk.cells] using this
end Go.Proofs.Ytaoaegkfejlgkaa.Dsk
