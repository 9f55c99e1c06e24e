/-
  What the statements of layer 8 do with a disk: a fuse is lit, it is started; and a log behind that.
-/
import Derived.Test.YtaoaegkfejlgkaaL1
import Derived.Test.YtaoaegkfejlgkaaR5
namespace Go.Proofs.Ytaoaegkfejlgkaa.Dsk
open Go.RowKit
def Dk.lit (s : Dk) (a b : Int) : Dk := { s with set := true, fw := a, fb := b }
def Dk.start (s : Dk) : Dk := { s with down := false, set := false, fw := 0, fb := 0 }
theorem okn_lit {s : Dk} {n : Nat} {a b : Int} (h : s.okn n) (ha : 0 ≤ a) (ha' : a ≤ 9223372036854775807) (hb : 0 ≤ b) : (s.lit a b).okn n := ⟨h.len, ha, ha', hb, h.wr⟩
theorem okn_start {s : Dk} {n : Nat} (h : s.okn n) : s.start.okn n := ⟨h.len, show (0 : Int) ≤ 0 by decide, show (0 : Int) ≤ 9223372036854775807 by decide, show (0 : Int) ≤ 0 by decide, h.wr⟩
theorem light_log {w : World} {d g0 lb : Nat} {S : Nat → Prop} {s : Dk} {c : Lc} {n N : Nat} (h : Well w d g0 lb S s c n N) (a b : Int) (ha : 0 ≤ a) (ha' : a ≤ 9223372036854775807) (hb : 0 ≤ b) :
    Calls Try.prog 12 #[.pointer (some ⟨d, 0, none⟩), .int .i64 a, .int .i64 b] w fun e w' => e = .returned (.int .i64 0) ∧ Well w' d g0 lb S (s.lit a b) c n N ∧ But d g0 w w' :=
  (light_ok w d g0 s h.sys.dsk a b ha hb).mono fun _ _ ⟨e, hd, hb', _⟩ => ⟨e, ⟨h.sys.disk hd hb', okn_lit h.ok ha ha' hb, h.len, h.sz, h.up, h.was, h.wk, h.bl⟩, hb'⟩
theorem start_log {w : World} {d g0 : Nat} {s : Dk} {c : Lc} {n N : Nat} (h : Has w d g0 s n N c) :
    Calls Try.prog 13 #[.pointer (some ⟨d, 0, none⟩)] w fun e w' => e = .returned (.tuple #[]) ∧ Has w' d g0 s.start n N c ∧ But d g0 w w' :=
  (start_any w d g0 s h.dsk).mono fun _ _ ⟨e, hd, hb, _⟩ => ⟨e, ⟨hd, okn_start h.ok, h.len, h.sz, h.wk⟩, hb⟩
/-- Opening a disk without a fuse. -/
theorem open_calm (w : World) (d g0 : Nat) (s : Dk) (n N : Nat) (c : Lc) (h : Has w d g0 s n N c) (hup : s.down = false) (hset : s.set = false) (hn : n ≤ 1000000) (hN : N ≤ 1000000) :
    Calls Try.prog 11 #[.pointer (some ⟨d, 0, none⟩)] w fun e w' => ∃ lb s', e = .returned (.tuple #[.pointer (some ⟨lb, 0, none⟩), .int .i64 0]) ∧ w.heap.size ≤ lb ∧ But d g0 w w' ∧ s'.set = false ∧ Well w' d g0 lb (fun k => w.heap.size ≤ k ∧ k < lb) s' { c with was := false } (n + 1) N := by
  refine (open_log w d g0 s n N c h hup hn hN).mono ?_
  rintro e w' ⟨hb, s', _, h1 | ⟨h2, _⟩⟩
  · obtain ⟨lb, e1, e2, e3, e4⟩ := h1
    exact ⟨lb, s', e1, e2, hb, e3.trans hset, e4⟩
  · rw [hset] at h2; cases h2
/-- Appending without a fuse. -/
theorem append_calm (w : World) (d g0 lb : Nat) (S : Nat → Prop) (s : Dk) (c : Lc) (n N : Nat) (h : Well w d g0 lb S s c n N) (hset : s.set = false) (hn : n ≤ 900000) (hN : N ≤ 1000000) (S0 : Nat → Prop) (A : Option Addr) (k : Nat) (b : List UInt8) (hR : Rd w S0 A b) (hS0 : ∀ k, S0 k → k ≠ d ∧ k ≠ g0 ∧ k ≠ lb ∧ ¬ S k) (hbk : b.length ≤ k) (h1 : 1 ≤ b.length) (h2 : b.length ≤ 65536) (hs : c.q + (9 + b.length) ≤ c.sz) :
    Calls Try.prog 19 #[.pointer (some ⟨lb, 0, none⟩), .slice A b.length k] w fun e w' => ∃ s' S', e = .returned (.int .i64 0) ∧ Kp (fun k => k = d ∨ k = g0 ∨ k = lb ∨ S k) w w' ∧ (∀ k, S' k → S k ∨ (w.heap.size ≤ k ∧ k < w'.heap.size)) ∧ s'.set = false ∧ Well w' d g0 lb S' s' (c.plus b) (n + 2) N := by
  refine (append_log w d g0 lb S s c n N h hn hN S0 A k b hR hS0 hbk h1 h2 hs).mono ?_
  rintro e w' ⟨hk, s', S', hS', h1 | ⟨h2, _⟩⟩
  · exact ⟨s', S', h1.1, hk, hS', h1.2.1.trans hset, h1.2.2⟩
  · rw [hset] at h2; cases h2
/-- Appending with a fuse: done, or cut off: all is there that was, and maybe what is appended, whole. -/
theorem append_cut (w : World) (d g0 lb : Nat) (S : Nat → Prop) (s : Dk) (c : Lc) (n N : Nat) (h : Well w d g0 lb S s c n N) (hn : n ≤ 900000) (hN : N ≤ 1000000) (S0 : Nat → Prop) (A : Option Addr) (k : Nat) (b : List UInt8) (hR : Rd w S0 A b) (hS0 : ∀ k, S0 k → k ≠ d ∧ k ≠ g0 ∧ k ≠ lb ∧ ¬ S k) (hbk : b.length ≤ k) (h1 : 1 ≤ b.length) (h2 : b.length ≤ 65536) (hs : c.q + (9 + b.length) ≤ c.sz) :
    Calls Try.prog 19 #[.pointer (some ⟨lb, 0, none⟩), .slice A b.length k] w fun e w' => ∃ s' c', Kp (fun k => k = d ∨ k = g0 ∨ k = lb ∨ S k) w w' ∧ Has w' d g0 s' (n + 2) N c' ∧
      ((e = .returned (.int .i64 0) ∧ c' = c.plus b) ∨ (e = .returned (.int .i64 20) ∧ (c' = c ∨ c' = c.plus b))) := by
  refine (append_log w d g0 lb S s c n N h hn hN S0 A k b hR hS0 hbk h1 h2 hs).mono ?_
  rintro e w' ⟨hk, s', S', hS', h1 | ⟨_, h2, _, _, h3 | h3⟩⟩
  · exact ⟨s', _, hk, h1.2.2.has, .inl ⟨h1.1, rfl⟩⟩
  · exact ⟨s', _, hk, h3, .inr ⟨h2, .inl rfl⟩⟩
  · exact ⟨s', _, hk, h3, .inr ⟨h2, .inr rfl⟩⟩
end Go.Proofs.Ytaoaegkfejlgkaa.Dsk
