/-
  The document's disk in memory, and the contracts of its New, may, Read and Write: it is the disk of package disk, step by step.
-/
import Derived.Test.YtohdiepoeadenaaD4
namespace Go.Proofs.Ytohdiepoeadenaa.Dsk
open Go.RowKit
def Dk.left (s : Dk) : Int := if s.set then s.fw else -1
/-- The document's disk at block d, its bytes at block g; y: the bytes of its fuse, which count just if one is lit. -/
structure Rsk (w : World) (d g : Nat) (s : Dk) (y : Int) : Prop where
  blk : Blk w d 41 [.slice (some ⟨g, 0, none⟩) s.l.length s.l.length, .bool s.down, .int .i64 s.left, .int .i64 y, .int .i64 (s.wr : Nat)]
  row : Blk w g 5 (bc s.l)
  ne : d ≠ g
  by' : s.set = true → y = s.fb
section
variable {w w' : World} {d g : Nat} {s : Dk} {y : Int}
theorem Rsk.c0 (h : Rsk w d g s y) : w.cell? ⟨d, 0, none⟩ = some (.slice (some ⟨g, 0, none⟩) s.l.length s.l.length) := h.blk.cell 0
theorem Rsk.c1 (h : Rsk w d g s y) : w.cell? ⟨d, 1, none⟩ = some (.bool s.down) := h.blk.cell 1
theorem Rsk.c2 (h : Rsk w d g s y) : w.cell? ⟨d, 2, none⟩ = some (.int .i64 s.left) := h.blk.cell 2
theorem Rsk.c3 (h : Rsk w d g s y) : w.cell? ⟨d, 3, none⟩ = some (.int .i64 y) := h.blk.cell 3
theorem Rsk.c4 (h : Rsk w d g s y) : w.cell? ⟨d, 4, none⟩ = some (.int .i64 (s.wr : Nat)) := h.blk.cell 4
theorem Rsk.fz (h : Rsk w d g s y) (i : Nat) : w.frozen? ⟨d, i, none⟩ = false := h.blk.frozen i
theorem Rsk.below {B : Nat} (h : Rsk w d g s y) (hb : Below B w w') (hd : d < B) (hg : g < B) : Rsk w' d g s y := ⟨h.blk.below hb hd, h.row.below hb hg, h.ne, h.by'⟩
theorem Rsk.old (h : Rsk w d g s y) (hb : Below w.heap.size w w') : Rsk w' d g s y := h.below hb h.blk.lt h.row.lt
theorem Rsk.but {d' g' : Nat} (h : Rsk w d g s y) (hb : But d' g' w w') (h1 : d ≠ d') (h2 : d ≠ g') (h3 : g ≠ d') (h4 : g ≠ g') : Rsk w' d g s y := ⟨h.blk.but hb h1 h2, h.row.but hb h3 h4, h.ne, h.by'⟩
end
theorem rnew_ok (w : World) (n : Nat) (h2 : n ≤ 1048576) : Calls Try.prog 11 #[.int .i64 (n : Int)] w fun e w' => e = .returned (.pointer (some ⟨w.heap.size + 1, 0, none⟩)) ∧
    Rsk w' (w.heap.size + 1) w.heap.size ⟨List.replicate n 0, false, 0, false, 0, 0⟩ 0 ∧ Below w.heap.size w w' ∧ w'.heap.size = w.heap.size + 2 := by
  have hmk := run_zeros n (by omega)
  have HL := Lib.hid (List.length_replicate (n := n) (a := (0 : UInt8)))
  generalize List.replicate n (0 : UInt8) = L at *
  generalize hC : (bc L).toArray = C at *
  have HC := Lib.hid hC
  clear hC
  go_enter Try.func11, Try.ntmps11
  go_wp2
  go_ret
  refine ⟨by simp, ⟨?_, ?_, by omega, fun h => by cases h⟩, ((Below.refl _ _).alloc (Nat.le_refl _) _).alloc (by simp) _, by simp⟩
  · have := Blk.new (w.alloc (.cells C 5)) 41 #[.slice (some ⟨w.heap.size, 0, none⟩) n n, .bool false, .int .i64 (-1), .int .i64 0, .int .i64 0] _ rfl
    simpa [Dk.left, HL.out] using this
  · rw [← HC.out]
    exact (Blk.new w 5 _ _ rfl).alloc _
theorem may_any (w : World) (d g : Nat) (s : Dk) (y : Int) (h : Rsk w d g s y) (a n : Int) (ha : -9223372036854775808 ≤ a) (ha' : a ≤ 9223372036854775807) (hn : n ≤ 9223372036854775807) (hl : s.l.length ≤ 2000000) :
    Calls Try.prog 25 #[.pointer (some ⟨d, 0, none⟩), .int .i64 a, .int .i64 n] w fun e w' => e = .returned (.int .i64 (s.err a n)) ∧ w = w' := by
  have h0 := h.c0
  have h1 := h.c1
  clear h
  by_cases hd : s.down = true
  · rw [Dk.err_down hd]
    rw [hd] at h1
    clear hd
    go_enter Try.func25, Try.ntmps25
    go_wp2
    go_ret
    exact ⟨rfl, rfl⟩
  have hd : s.down = false := by simpa using hd
  rw [hd] at h1
  by_cases hb : a < 0 ∨ n < 0 ∨ (s.l.length : Int) - a < n
  · rw [Dk.err_bad hd hb]
    clear hd
    have hx : a < 0 ∨ (¬ a < 0 ∧ n < 0) ∨ (¬ a < 0 ∧ ¬ n < 0 ∧ 0 ≤ a ∧ (s.l.length : Int) < a) ∨ (¬ a < 0 ∧ ¬ n < 0 ∧ 0 ≤ a ∧ ¬ (s.l.length : Int) < a ∧ (s.l.length : Int) - a < n) := by omega
    clear hb
    rcases hx with h2 | ⟨h2, h3⟩ | ⟨h2, h3, h4, h5⟩ | ⟨h2, h3, h4, h5, h6⟩
    all_goals
      go_enter Try.func25, Try.ntmps25
      go_wp2
      go_ret
      exact ⟨rfl, rfl⟩
  · rw [Dk.err_ok hd hb]
    have h2 : ¬ a < 0 := by omega
    have h3 : ¬ n < 0 := by omega
    have h4 : ¬ (s.l.length : Int) - a < n := by omega
    have h5 : 0 ≤ a := by omega
    have h6 : ¬ (s.l.length : Int) < a := by omega
    clear hb hd
    go_enter Try.func25, Try.ntmps25
    go_wp2
    go_ret
    exact ⟨rfl, rfl⟩
theorem rread_bad (w : World) (d g : Nat) (s : Dk) (y : Int) (h : Rsk w d g s y) (a n : Int) (ha : -9223372036854775808 ≤ a) (ha' : a ≤ 9223372036854775807) (hn : n ≤ 9223372036854775807) (hl : s.l.length ≤ 2000000) (he : s.err a n ≠ 0) :
    Calls Try.prog 15 #[.pointer (some ⟨d, 0, none⟩), .int .i64 a, .int .i64 n] w fun e w' => e = .returned (.tuple #[.slice none 0 0, .int .i64 (s.err a n)]) ∧ w = w' := by
  have hc := may_any w d g s y h a n ha ha' hn hl
  clear h
  have hz : (s.err a n != 0) = true := by simpa using he
  generalize s.err a n = E at *
  go_enter Try.func15, Try.ntmps15
  go_wp2_with (go_at_call 25; refine hc.mono ?_; rintro e w' ⟨rfl, rfl⟩)
  go_ret2
  exact ⟨rfl, rfl⟩
/-- What the document's Read hands back: a part of its bytes. -/
def PartR (w : World) (g a n : Nat) (l : List UInt8) (e : Ending) (w' : World) : Prop := ∃ P c, e = .returned (.tuple #[.slice P n c, .int .i64 0]) ∧ Rd w (· = g) P ((l.drop a).take n) ∧ w = w'
theorem rread_ok (w : World) (d g : Nat) (s : Dk) (y : Int) (h : Rsk w d g s y) (a n : Nat) (hl : s.l.length ≤ 2000000) (hd : s.down = false) (hn : a + n ≤ s.l.length) :
    Calls Try.prog 15 #[.pointer (some ⟨d, 0, none⟩), .int .i64 (a : Int), .int .i64 (n : Int)] w (PartR w g a n s.l) := by
  have hc := may_any w d g s y h a n (by omega) (by omega) (by omega) hl
  rw [Dk.err_ok hd (by omega)] at hc
  obtain ⟨P, hP, hP'⟩ := run_part g s.l.length a (a + n) (by omega) hn
  rw [show a + n - a = n by omega, show ((a + n : Nat) : Int) = (a : Int) + n by omega] at hP
  have h0 := h.c0
  have HR : Hid (Rd w (· = g) P ((s.l.drop a).take n)) := Lib.hid (fun h0 => by
    rw [List.length_take, List.length_drop] at h0
    rw [hP' (by omega)]
    exact Rd.of_part h.row (by rw [List.length_take, List.length_drop]; exact h0))
  clear hP' h hd
  go_enter Try.func15, Try.ntmps15
  go_wp2_with (go_at_call 25; refine hc.mono ?_; rintro e w' ⟨rfl, rfl⟩)
  go_ret2
  exact ⟨P, _, rfl, HR.out, rfl⟩
theorem rwrite_bad (w : World) (d g : Nat) (s : Dk) (y : Int) (h : Rsk w d g s y) (a : Int) (b : List UInt8) (A : Option Addr) (c : Nat) (ha : -9223372036854775808 ≤ a) (ha' : a ≤ 9223372036854775807) (hb : b.length ≤ 2000000) (hl : s.l.length ≤ 2000000) (he : s.err a b.length ≠ 0) :
    Calls Try.prog 13 #[.pointer (some ⟨d, 0, none⟩), .int .i64 a, .slice A b.length c] w fun e w' => e = .returned (.int .i64 (s.err a b.length)) ∧ w = w' := by
  have hc := may_any w d g s y h a b.length ha ha' (by omega) hl
  clear h
  have hz : (s.err a b.length != 0) = true := by simpa using he
  generalize s.err a b.length = E at *
  go_enter Try.func13, Try.ntmps13
  go_wp2_with (go_at_call 25; refine hc.mono ?_; rintro e w' ⟨rfl, rfl⟩)
  go_ret
  exact ⟨rfl, rfl⟩
end Go.Proofs.Ytohdiepoeadenaa.Dsk
