/-
  Plays of writes, reads, fuses, starts and copies: what is kept from step to step, and the steps that came in.
-/
import Derived.Test.YtohdiepoeadenaaE2
import Derived.Test.YtohdiepoeadenaaDA
namespace Go.Proofs.Ytohdiepoeadenaa.Dsk
open Go.RowKit
/-- A step that came in. -/
structure OpD where
  kind : Int
  at' : Int
  n : Int
  data : List UInt8
  A : Option Addr
  c : Nat
structure OpD.fine (o : OpD) : Prop where
  a0 : -9223372036854775808 ≤ o.at'
  a1 : o.at' ≤ 9223372036854775807
  n1 : o.n ≤ 9223372036854775807
  c1 : o.data.length ≤ o.c
/-- A slice at Z reads as these steps, below block B. -/
def RdO (w : World) (B : Nat) (Z : Option Addr) (os : List OpD) : Prop := ∀ (j : Nat) (o : OpD), os[j]? = some o → ∃ ad, Z = some ad ∧ ad.block < B ∧ w.cell? (ad.add (j * 4)) = some (.int .i64 o.kind) ∧ w.cell? ((ad.add (j * 4)).add 1) = some (.int .i64 o.at') ∧ w.cell? ((ad.add (j * 4)).add 2) = some (.int .i64 o.n) ∧
  w.cell? ((ad.add (j * 4)).add 3) = some (.slice o.A o.data.length o.c) ∧ Rd w (· < B) o.A o.data ∧ o.fine
/-- A disk of so many bytes, behind at most k writes. -/
structure Dk.fit (s : Dk) (size k : Nat) : Prop where
  len : s.l.length = size
  fw0 : 0 ≤ s.fw
  fw1 : s.fw ≤ 9223372036854775807
  fb0 : 0 ≤ s.fb
  wr : s.wr ≤ k
theorem Dk.fit.ok {s : Dk} {size k : Nat} (h : s.fit size k) (h1 : size ≤ 2000000) (h2 : k ≤ 2000000) : s.ok := ⟨by rw [h.len]; exact h1, h.fw0, h.fw1, h.fb0, Nat.le_trans h.wr h2⟩
theorem Dk.fit.more {s : Dk} {size k : Nat} (h : s.fit size k) : s.fit size (k + 1) := ⟨h.len, h.fw0, h.fw1, h.fb0, Nat.le_succ_of_le h.wr⟩
theorem Dk.err_zero {s : Dk} {a : Int} {n : Nat} (he : s.err a n = 0) : s.down = false ∧ 0 ≤ a ∧ a + n ≤ s.l.length := by
  have hd : s.down = false := by
    cases hx : s.down with
    | false => rfl
    | true => rw [Dk.err_down hx] at he; cases he
  have hx : ¬ (a < 0 ∨ (n : Int) < 0 ∨ (s.l.length : Int) - a < n) := fun hx => by rw [Dk.err_bad hd hx] at he; cases he
  exact ⟨hd, by omega, by omega⟩
theorem Dk.fit.write {s : Dk} {size k : Nat} (h : s.fit size k) (a : Int) (b : List UInt8) : (s.write a b).2.fit size (k + 1) := by
  unfold Dk.write
  split
  · exact h.more
  · rename_i he
    have he' : s.err a b.length = 0 := by simpa using he
    obtain ⟨_, h1, h2⟩ := Dk.err_zero he'
    have hw := h.wr
    have hl := h.len
    have f0 := h.fw0
    have f1 := h.fw1
    split
    · refine ⟨?_, h.fw0, h.fw1, h.fb0, ?_⟩
      · show (splice s.l a.toNat (b.take s.fb.toNat)).length = size
        rw [splice_length _ _ _ (by rw [List.length_take]; omega), hl]
      · show s.wr + 1 ≤ k + 1; omega
    · rename_i hs
      refine ⟨?_, ?_, ?_, h.fb0, ?_⟩
      · show (splice s.l a.toNat b).length = size
        rw [splice_length _ _ _ (by omega), hl]
      · show 0 ≤ (if s.set = true then s.fw - 1 else s.fw)
        split
        · rename_i hse
          have : s.fw ≠ 0 := fun e => hs (by rw [hse, e]; rfl)
          omega
        · omega
      · show (if s.set = true then s.fw - 1 else s.fw) ≤ _
        split <;> omega
      · show s.wr + 1 ≤ k + 1; omega
def Dk.lit (s : Dk) (a n : Int) : Dk := { s with set := true, fw := a, fb := n }
def Dk.started (s : Dk) : Dk := { s with down := false, set := false, fw := 0, fb := 0 }
theorem Dk.fit.lit {s : Dk} {size k : Nat} (h : s.fit size k) {a n : Int} (ha : 0 ≤ a) (ha' : a ≤ 9223372036854775807) (hn : 0 ≤ n) : (s.lit a n).fit size (k + 1) := ⟨h.len, ha, ha', hn, Nat.le_succ_of_le h.wr⟩
theorem Dk.fit.started {s : Dk} {size k : Nat} (h : s.fit size k) : s.started.fit size (k + 1) := ⟨h.len, by show (0 : Int) ≤ 0; decide, by show (0 : Int) ≤ _; decide, by show (0 : Int) ≤ 0; decide, Nat.le_succ_of_le h.wr⟩
/-- From step to step: the disk, the document's disk, which are one, and all that was there. -/
structure PInv (w : World) (B size k m mg d g : Nat) (s : Dk) (y : Int) (wr : World) : Prop where
  dsk : Dsk wr d g s
  rsk : Rsk wr m mg s y
  fit : s.fit size k
  bel : Below B w wr
  bd : B ≤ d
  bg : B ≤ g
  bm : B ≤ m
  bn : B ≤ mg
  n1 : d ≠ m
  n2 : d ≠ mg
  n3 : g ≠ m
  n4 : g ≠ mg
theorem PInv.old {w : World} {B size k m mg d g : Nat} {s : Dk} {y : Int} {wr wr' : World} (h : PInv w B size k m mg d g s y wr) (hb : Below wr.heap.size wr wr') (hB : B ≤ w.heap.size) : PInv w B size k m mg d g s y wr' :=
  ⟨h.dsk.old hb, h.rsk.old hb, h.fit, h.bel.trans (hb.mono (Nat.le_trans hB h.bel.size)), h.bd, h.bg, h.bm, h.bn, h.n1, h.n2, h.n3, h.n4⟩
/-- What both writes leave. -/
theorem PInv.both {w : World} {B size k m mg d g : Nat} {s t : Dk} {y : Int} {wr wr' : World} (h : PInv w B size k m mg d g s y wr) (hd : Dsk wr' d g t) (hr : Rsk wr' m mg t y) (ht : t.fit size (k + 1)) (hb : Below B wr wr') : PInv w B size (k + 1) m mg d g t y wr' :=
  ⟨hd, hr, ht, h.bel.trans hb, h.bd, h.bg, h.bm, h.bn, h.n1, h.n2, h.n3, h.n4⟩
theorem bool_off (b : Bool) : ((!b) == b) = false := by cases b <;> rfl
end Go.Proofs.Ytohdiepoeadenaa.Dsk
