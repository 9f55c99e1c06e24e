/-
  A log in memory; the contract of Open of package wal.
-/
import Derived.Test.YtaoaegkfejlgkaaW10
namespace Go.Proofs.Ytaoaegkfejlgkaa.Dsk
open Go.RowKit
/-- What a log knows. -/
structure Lc where
  sz : Nat
  was : Bool
  st : Nat
  g : Nat
  rs : List (List UInt8)
  q : Nat
/-- A log at block lb, on the disk at block d, its records in blocks for which S holds. -/
structure LogM (w : World) (lb d : Nat) (S : Nat → Prop) (c : Lc) : Prop where
  ex : ∃ A k, Blk w lb 65 [.pointer (some ⟨d, 0, none⟩), .int .i64 (c.sz : Int), .bool c.was, .int .i64 (c.st : Int), .int .i64 (c.g : Int), .slice A c.rs.length k, .int .i64 (c.q : Int)] ∧ Recs w S (.slice A c.rs.length k) c.rs
  nlb : ¬ S lb
theorem LogM.keep {w w' : World} {lb d : Nat} {S : Nat → Prop} {c : Lc} (h : LogM w lb d S c) (hk : ∀ k, (k = lb ∨ S k) → k < w.heap.size → w'.heap[k]? = w.heap[k]?) (hz : w.heap.size ≤ w'.heap.size) : LogM w' lb d S c := by
  obtain ⟨A, k, h1, h2⟩ := h.ex
  exact ⟨⟨A, k, (hk lb (.inl rfl) h1.lt).trans h1, h2.keep (fun k hS hl => hk k (.inr hS) hl) hz⟩, h.nlb⟩
theorem LogM.old {w w' : World} {lb d : Nat} {S : Nat → Prop} {c : Lc} (h : LogM w lb d S c) (hb : Below w.heap.size w w') : LogM w' lb d S c := h.keep (fun k _ hk => hb.block k hk) hb.size
theorem LogM.lt {w : World} {lb d : Nat} {S : Nat → Prop} {c : Lc} (h : LogM w lb d S c) : lb < w.heap.size := by obtain ⟨A, k, h1, _⟩ := h.ex; exact h1.lt
theorem Recs.tight {w : World} {S : Nat → Prop} {rv : Value} {rs : List (List UInt8)} (h : Recs w S rv rs) : Recs w (fun k => S k ∧ k < w.heap.size) rv rs := by
  obtain ⟨xs, h1, h2⟩ := h.ex
  refine ⟨⟨xs, h1, fun i x hx => ?_⟩, fun k e => ⟨h.own k e, (h1.lt k e).2⟩⟩
  obtain ⟨u, a, b⟩ := h2 i x hx
  refine ⟨u, a, ?_⟩
  obtain ⟨q', c', e', hq, _⟩ := b.lt
  obtain ⟨q, c, h3, h4, h5, h6, h7, h8, h9⟩ := b
  rw [h3] at e'
  injection e' with e' _ _
  injection e' with e'
  injection e' with e'
  exact ⟨q, c, h3, h4, h5, h6, ⟨h7, by omega⟩, h8, h9⟩
/-- What Open hands back. -/
def OpenR (w : World) (d g0 : Nat) (T : Int × Dk) (sz st g : Nat) (rs : List (List UInt8)) (p : Nat) (e : Ending) (w' : World) : Prop :=
  Dsk w' d g0 T.2 ∧ But d g0 w w' ∧
  ((T.1 = 0 ∧ ∃ lb, e = .returned (.tuple #[.pointer (some ⟨lb, 0, none⟩), .int .i64 0]) ∧ w.heap.size ≤ lb ∧ LogM w' lb d (fun k => w.heap.size ≤ k ∧ k < lb) ⟨sz, false, st, g, rs, p⟩) ∨
   (T.1 ≠ 0 ∧ e = .returned (.tuple #[.pointer none, .int .i64 T.1])))
set_option maxRecDepth 100000
set_option maxHeartbeats 8000000 in
theorem open_core (w : World) (d g0 : Nat) (s : Dk) (h : Dsk w d g0 s) (hup : s.down = false) (n : Nat) (ho : s.okn n) (hn : n + 10 ≤ 2000000) (sz : Nat) (hsz : s.l.length / 2 = sz) (hN : s.l.length ≤ 1000000) (st g : Nat) (rs : List (List UInt8)) (p : Nat) (ws : List Wr) (hws : ws.length ≤ 5) (ha : ∀ x ∈ ws, x.1 ≤ 2000000)
    (hex : ∀ W q1 q2, Blk W q1 5 (bc (half s.l 0 sz)) → Blk W q2 5 (bc (half s.l sz sz)) → Calls Try.prog 26 #[.slice (some ⟨q1, 0, none⟩) sz sz, .slice (some ⟨q2, 0, none⟩) sz sz] W (ExamR W st g rs p ws)) :
    Calls Try.prog 11 #[.pointer (some ⟨d, 0, none⟩)] w (OpenR w d g0 (perf s ws) sz st g rs p) := by
  have HS := Lib.hid (size_any w d g0 s h)
  have H := Lib.hid h
  have HEX := Lib.hid hex
  have HR1 := Lib.hid (read_ok w d g0 s h 0 sz (by omega) hup (by omega))
  have HR2 := Lib.hid (fun W (hD : Dsk W d g0 s) => read_ok W d g0 s hD sz sz (by omega) hup (by omega))
  rw [show ((0 : Nat) : Int) = 0 from rfl] at HR1
  have HP := Lib.hid (fun W (hD : Dsk W d g0 s) (S : Nat → Prop) A c (hR : RdWs W S A ws) (hd : ¬ S d) (hg : ¬ S g0) => perform_any W d g0 s hD n ho S A c ws hR hd hg (by omega) ha)
  obtain ⟨N, hNN⟩ : ∃ N, N = s.l.length := ⟨_, rfl⟩
  rw [← hNN] at HS hsz hN
  have hszb : sz ≤ 500000 := by omega
  have q2' : (N : Int) / 2 = (sz : Int) := by omega
  have hdl := h.blk.lt
  have hgl := h.row.lt
  have HDL := Lib.hid hdl
  have HGL := Lib.hid hgl
  clear h hup ho hn hN hws ha hex hNN hsz hdl hgl
  go_enter Try.func11, Try.ntmps11
  go_wp2_with fail
  refine HS.out.mono ?_
  rintro e w1 ⟨rfl, rfl⟩
  go_wp2_with fail
  refine HR1.out.mono ?_
  rintro e w1 ⟨rfl, hk1, hb1, hz1⟩
  have HK1 := Lib.hid hk1
  have HB1 := Lib.hid hb1
  have HD1 := Lib.hid (H.out.old hb1)
  have HZ1 := Lib.hid hz1
  clear hk1 hb1 hz1
  go_wp2_with fail
  refine (HR2.out w1 HD1.out).mono ?_
  rintro e w2 ⟨rfl, hk2, hb2, hz2⟩
  have HK2 := Lib.hid hk2
  have HK12 := Lib.hid (HK1.out.below hb2 HK1.out.lt)
  have HB2 := Lib.hid (HB1.out.trans (hb2.mono HB1.out.size))
  have HD2 := Lib.hid (HD1.out.old hb2)
  clear hk2 hb2 hz2
  go_wp2_with fail
  refine (HEX.out w2 _ _ HK12.out HK2.out).mono ?_
  rintro e w3 ⟨A, c, v, rfl, hr3, hw3, hb3⟩
  obtain ⟨A2, c2, rfl, hrd3⟩ := hw3.rd
  have HR3 := Lib.hid hr3
  have HRD3 := Lib.hid hrd3
  have HB3 := Lib.hid (HB2.out.trans (hb3.mono HB2.out.size))
  have HD3 := Lib.hid (HD2.out.old hb3)
  have HS2 := Lib.hid HB2.out.size
  have HS3 := Lib.hid hb3.size
  clear hr3 hw3 hrd3 hb3 HK1 HK2 HK12
  go_wp2_with fail
  have hA4 := Blk.new w3 59 #[.int .i64 (st : Int), .int .i64 (g : Int), .slice A rs.length c, .int .i64 (p : Int)] _ rfl
  have hb4 : Below w3.heap.size w3 (w3.alloc (.cells #[.int .i64 (st : Int), .int .i64 (g : Int), .slice A rs.length c, .int .i64 (p : Int)] 59)) := (Below.refl _ _).alloc (Nat.le_refl _) _
  generalize w3.alloc (.cells #[.int .i64 (st : Int), .int .i64 (g : Int), .slice A rs.length c, .int .i64 (p : Int)] 59) = w4 at *
  have HA4 := Lib.hid hA4
  have HD4 := Lib.hid (HD3.out.old hb4)
  have HR4 := Lib.hid (HR3.out.old hb4)
  have HRD4 := Lib.hid (HRD3.out.keep (fun k _ hk => hb4.block k hk) hb4.size)
  have HB4 := Lib.hid (HB3.out.trans (hb4.mono HB3.out.size))
  clear hA4 hb4 HR3 HRD3 HD3
  generalize perf s ws = T at *
  refine (HP.out w4 HD4.out _ A2 c2 HRD4.out (by have := HDL.out; have := HS2.out; omega) (by have := HGL.out; have := HS2.out; omega)).mono ?_
  rintro e w5 ⟨rfl, hD5, hb5⟩
  have HD5 := Lib.hid hD5
  have HB5 : Hid (But d g0 w w5) := Lib.hid ((But.of_below HB4.out).trans hb5)
  have HA5 := Lib.hid (HA4.out.but hb5 (by have := HDL.out; have := HS2.out; have := HS3.out; omega) (by have := HGL.out; have := HS2.out; have := HS3.out; omega))
  have HR5 := Lib.hid (HR4.out.keep (w' := w5) (fun k hk hl => hb5.block k hl (by have := HDL.out; have := HS2.out; omega) (by have := HGL.out; have := HS2.out; omega)) hb5.size)
  clear hD5 hb5 HP HR1 HR2 HS HEX HD1 HD2 HD4 HRD4
  by_cases he : T.1 = 0
  · have hc0 : w5.cell? ⟨w3.heap.size, 0, none⟩ = some (.int .i64 (st : Int)) := HA5.out.cell 0
    have hc1 : w5.cell? ⟨w3.heap.size, 1, none⟩ = some (.int .i64 (g : Int)) := HA5.out.cell 1
    have hc2 : w5.cell? ⟨w3.heap.size, 2, none⟩ = some (.slice A rs.length c) := HA5.out.cell 2
    have hc3 : w5.cell? ⟨w3.heap.size, 3, none⟩ = some (.int .i64 (p : Int)) := HA5.out.cell 3
    have HE := Lib.hid he
    rw [he]
    clear he
    go_wp2
    go_ret2
    have hbl : Below w5.heap.size w5 (w5.alloc (.cells #[.pointer (some ⟨d, 0, none⟩), .int .i64 (sz : Int), .bool false, .int .i64 (st : Int), .int .i64 (g : Int), .slice A rs.length c, .int .i64 (p : Int)] 65)) := (Below.refl _ _).alloc (Nat.le_refl _) _
    have hz : w.heap.size ≤ w5.heap.size := HB5.out.size
    refine ⟨HD5.out.old hbl, HB5.out.trans (But.of_below hbl), .inl ⟨HE.out, w5.heap.size, rfl, hz, ⟨A, c, Blk.new w5 _ _ _ rfl, ?_⟩, by omega⟩⟩
    exact (HR5.out.tight.old hbl).more (fun k hk => ⟨Nat.le_trans HS2.out hk.1, hk.2⟩)
  · have hne : (T.1 != 0) = true := by simpa using he
    have HE := Lib.hid he
    clear he
    go_wp2
    go_ret2
    exact ⟨HD5.out, HB5.out, .inr ⟨HE.out, rfl⟩⟩
end Go.Proofs.Ytaoaegkfejlgkaa.Dsk
