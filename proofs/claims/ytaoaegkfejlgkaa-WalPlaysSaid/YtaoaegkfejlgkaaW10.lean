/-
  The contracts of examine and Open of package wal; a log in memory.
-/
import Derived.Test.YtaoaegkfejlgkaaW9
namespace Go.Proofs.Ytaoaegkfejlgkaa.Dsk
open Go.RowKit
/-- What a disk's halves have, and the writes that make it right. -/
def ExamR (w : World) (st g : Nat) (rs : List (List UInt8)) (p : Nat) (ws : List Wr) (e : Ending) (w' : World) : Prop :=
  ∃ A c v, e = .returned (.tuple #[.agg #[.int .i64 (st : Int), .int .i64 (g : Int), .slice A rs.length c, .int .i64 (p : Int)], v]) ∧ Recs w' (fun k => w.heap.size ≤ k) (.slice A rs.length c) rs ∧ WRow w' (fun k => w.heap.size ≤ k) v ws ∧ Below w.heap.size w w'
def remWs (h : List UInt8) (st p : Nat) : List Wr := if blankB (h.drop p) then [] else [(st + p, List.replicate (h.length - p) 0)]
theorem Rem.exam {w w' : World} {h : List UInt8} {st g q : Nat} {rs : List (List UInt8)} {e : Ending} (hr : Rem w h st g e w') (hc : Ch h g 16 rs q) (hn : payAt h g q = none) : ExamR w st g rs q (remWs h st q) e w' := by
  obtain ⟨rs', p, rv, v, h1, h2, h3, h4, h5, h6⟩ := hr
  obtain ⟨rfl, rfl⟩ := Ch.det hc hn h1 h2
  obtain ⟨A, c, rfl⟩ := h4.form
  exact ⟨A, c, v, h3, h4, h5, h6⟩
set_option maxRecDepth 100000
set_option maxHeartbeats 4000000 in
theorem examine_new (w : World) (q1 q2 sz : Nat) (hk1 : Blk w q1 5 (bc (List.replicate sz 0))) (hk2 : Blk w q2 5 (bc (List.replicate sz 0))) (h1 : 500 ≤ sz) (h2 : sz ≤ 1000000) :
    Calls Try.prog 26 #[.slice (some ⟨q1, 0, none⟩) sz sz, .slice (some ⟨q2, 0, none⟩) sz sz] w (ExamR w 0 1 [] 16 [(0, headB 1 0), (8, [1])]) := by
  have HG1 := Lib.hid (fun W (hb : Below w.heap.size w W) => genOf_any W q1 _ (hk1.below hb hk1.lt) (by simpa using h1) (by simp; omega))
  have HG2 := Lib.hid (fun W (hb : Below w.heap.size w W) => genOf_any W q2 _ (hk2.below hb hk2.lt) (by simpa using h1) (by simp; omega))
  have HCr := Lib.hid (fun W (hb : Below w.heap.size w W) => creation_any W (· = q1) (some ⟨q1, 0, none⟩) sz _ (Rd.of_blk (hk1.below hb hk1.lt)) (by simp; omega) (blankB_iff.2 (fun i => zeros_get sz i)))
  simp only [List.length_replicate, genOf_zeros] at HG1 HG2 HCr
  rw [show ((0 : Nat) : Int) = 0 from rfl] at HG1 HG2
  clear hk1 hk2 h1 h2
  go_enter Try.func26, Try.ntmps26
  go_wp2_with fail
  have hA1 := Blk.new w 59 #[.int .i64 0, .int .i64 0, .slice none 0 0, .int .i64 0] _ rfl
  have hB1 := (Below.refl w.heap.size w).alloc (Nat.le_refl _) (.cells #[.int .i64 0, .int .i64 0, .slice none 0 0, .int .i64 0] 59)
  have hS1 : (w.alloc (.cells #[.int .i64 0, .int .i64 0, .slice none 0 0, .int .i64 0] 59)).heap.size = w.heap.size + 1 := by simp
  generalize w.alloc (.cells #[.int .i64 0, .int .i64 0, .slice none 0 0, .int .i64 0] 59) = w0 at *
  have HA1 := Lib.hid hA1
  have HB1 := Lib.hid hB1
  have HS1 := Lib.hid hS1
  clear hA1 hB1 hS1
  refine (HG1.out w0 HB1.out).mono ?_
  rintro e w1 ⟨rfl, hb⟩
  have HB2 := Lib.hid (HB1.out.trans (hb.mono HB1.out.size))
  have HA2 := Lib.hid (HA1.out.below hb HA1.out.lt)
  clear hb
  go_wp2_with fail
  refine (HG2.out w1 HB2.out).mono ?_
  rintro e w2 ⟨rfl, hb⟩
  have HB3 := Lib.hid (HB2.out.trans (hb.mono HB2.out.size))
  have HA3 := Lib.hid (HA2.out.below hb HA2.out.lt)
  clear hb
  go_wp2_with fail
  refine (HCr.out w2 HB3.out).mono ?_
  rintro e w3 ⟨v, rfl, hr, hb⟩
  have HR := Lib.hid hr
  have HB4 := Lib.hid (HB3.out.trans (hb.mono HB3.out.size))
  have HA4 := Lib.hid (HA3.out.below hb HA3.out.lt)
  have HL3 := Lib.hid HA3.out.lt
  clear hb hr
  have r0 := HA4.out.cell 0
  have r1 := HA4.out.cell 1
  have r2 := HA4.out.cell 2
  have r3 := HA4.out.cell 3
  have f0 := HA4.out.frozen 0
  have f1 := HA4.out.frozen 1
  have f2 := HA4.out.frozen 2
  have f3 := HA4.out.frozen 3
  simp only [List.getElem?_cons_zero, List.getElem?_cons_succ] at r0 r1 r2 r3
  go_wp2
  have hKf := (((HA4.out.put 0 (.int .i64 0)).put 1 (.int .i64 1)).put 2 (.slice none 0 0)).put 3 (.int .i64 16)
  have hkp := ((((Kp.refl (fun k => k = w.heap.size) w3).put w.heap.size 0 (.int .i64 0) rfl).put w.heap.size 1 (.int .i64 1) rfl).put w.heap.size 2 (.slice none 0 0) rfl).put w.heap.size 3 (.int .i64 16) rfl
  generalize (((w3.setCell ⟨w.heap.size, 0, none⟩ (.int .i64 0)).setCell ⟨w.heap.size, 1, none⟩ (.int .i64 1)).setCell ⟨w.heap.size, 2, none⟩ (.slice none 0 0)).setCell ⟨w.heap.size, 3, none⟩ (.int .i64 16) = wf at *
  have q0 : wf.cell? ⟨w.heap.size, 0, none⟩ = some (.int .i64 0) := hKf.cell 0
  have q1 : wf.cell? ⟨w.heap.size, 1, none⟩ = some (.int .i64 1) := hKf.cell 1
  have q2 : wf.cell? ⟨w.heap.size, 2, none⟩ = some (.slice none 0 0) := hKf.cell 2
  have q3 : wf.cell? ⟨w.heap.size, 3, none⟩ = some (.int .i64 16) := hKf.cell 3
  refine bodyPost_ret (v := .tuple #[.agg #[.int .i64 0, .int .i64 1, (.slice none 0 0), .int .i64 16], v]) (by simp [results, Try.results26, go_sem, q0, q1, q2, q3]) rfl ?_
  have hlt := HL3.out
  exact ⟨none, 0, v, rfl, Recs.nil _ _, (HR.out.keep (fun k hk _ => hkp.block k (by omega) (by omega)) hkp.size).more (fun k hk => by omega), HB4.out.trans (hkp.below HB4.out.size (fun k e => by omega))⟩
set_option maxHeartbeats 8000000 in
theorem examine_wk (w : World) (q1 q2 : Nat) (L : List UInt8) (sz st g p : Nat) (rs : List (List UInt8)) (hw : Wk L sz st g rs p) (hk1 : Blk w q1 5 (bc (half L 0 sz))) (hk2 : Blk w q2 5 (bc (half L sz sz))) (h2 : sz ≤ 1000000) :
    Calls Try.prog 26 #[.slice (some ⟨q1, 0, none⟩) sz sz, .slice (some ⟨q2, 0, none⟩) sz sz] w (ExamR w st g rs p (remWs (half L st sz) st p)) := by
  have hl1 : (half L 0 sz).length = sz := half_length (by have := hw.len; omega)
  have hl2 : (half L sz sz).length = sz := half_length (by have := hw.len; omega)
  have h1 := hw.hsz
  have hg := hw.gle
  have HG1 := Lib.hid (fun W (hb : Below w.heap.size w W) => genOf_any W q1 _ (hk1.below hb hk1.lt) (by rw [hl1]; exact h1) (by rw [hl1]; omega))
  have HG2 := Lib.hid (fun W (hb : Below w.heap.size w W) => genOf_any W q2 _ (hk2.below hb hk2.lt) (by rw [hl2]; exact h1) (by rw [hl2]; omega))
  rw [hl1] at HG1
  rw [hl2] at HG2
  rcases hw.hst with hst | hst
  · subst hst
    have hgen := hw.gen
    have hoth := hw.oth
    rw [Nat.sub_zero] at hoth
    have HRm := Lib.hid (fun W (hb : Below w.heap.size w W) => (remains_any W q1 _ (hk1.below hb hk1.lt) 0 g (by omega) (by rw [hl1]; exact h1) (by rw [hl1]; exact h2) (by omega)).mono (fun e w' hr => hr.exam hw.ch hw.none))
    rw [hl1, show ((0 : Nat) : Int) = 0 from rfl] at HRm
    rw [hgen] at HG1
    have hg1 := hw.g1
    generalize genOf (half L sz sz) = g2 at *
    have e1 : ((g : Int) == 0) = false := by simp; omega
    have e2 : (g2 : Int) ≤ (g : Int) := by omega
    have e2' : ¬ (g : Int) < (g2 : Int) := by omega
    generalize remWs (half L 0 sz) 0 p = ws at *
    clear hk1 hk2 h1 h2 hgen hoth hg1 hl1 hl2 hg hw
    go_enter Try.func26, Try.ntmps26
    go_wp2_with fail
    have hA1 := Blk.new w 59 #[.int .i64 0, .int .i64 0, .slice none 0 0, .int .i64 0] _ rfl
    have hB1 := (Below.refl w.heap.size w).alloc (Nat.le_refl _) (.cells #[.int .i64 0, .int .i64 0, .slice none 0 0, .int .i64 0] 59)
    have hS1 : (w.alloc (.cells #[.int .i64 0, .int .i64 0, .slice none 0 0, .int .i64 0] 59)).heap.size = w.heap.size + 1 := by simp
    generalize w.alloc (.cells #[.int .i64 0, .int .i64 0, .slice none 0 0, .int .i64 0] 59) = w0 at *
    have HA1 := Lib.hid hA1
    have HB1 := Lib.hid hB1
    have HS1 := Lib.hid hS1
    clear hA1 hB1 hS1
    refine (HG1.out w0 HB1.out).mono ?_
    rintro e w1 ⟨rfl, hb⟩
    have HB2 := Lib.hid (HB1.out.trans (hb.mono HB1.out.size))
    have HA2 := Lib.hid (HA1.out.below hb HA1.out.lt)
    clear hb
    go_wp2_with fail
    refine (HG2.out w1 HB2.out).mono ?_
    rintro e w2 ⟨rfl, hb⟩
    have HB3 := Lib.hid (HB2.out.trans (hb.mono HB2.out.size))
    have HA3 := Lib.hid (HA2.out.below hb HA2.out.lt)
    clear hb
    go_wp2_with fail
    refine (HRm.out w2 HB3.out).mono ?_
    rintro e w3 ⟨A, c, v, rfl, hr, hw, hb⟩
    have HR := Lib.hid hr
    have HW := Lib.hid hw
    have HB4 := Lib.hid (HB3.out.trans (hb.mono HB3.out.size))
    have HA4 := Lib.hid (HA3.out.below hb HA3.out.lt)
    have HL3 := Lib.hid HA3.out.lt
    clear hb hr hw
    have r0 := HA4.out.cell 0
    have r1 := HA4.out.cell 1
    have r2 := HA4.out.cell 2
    have r3 := HA4.out.cell 3
    have f0 := HA4.out.frozen 0
    have f1 := HA4.out.frozen 1
    have f2 := HA4.out.frozen 2
    have f3 := HA4.out.frozen 3
    simp only [List.getElem?_cons_zero, List.getElem?_cons_succ] at r0 r1 r2 r3
    go_wp2
    have hKf := (((HA4.out.put 0 (.int .i64 0)).put 1 (.int .i64 (g : Int))).put 2 (.slice A rs.length c)).put 3 (.int .i64 (p : Int))
    have hkp := ((((Kp.refl (fun k => k = w.heap.size) w3).put w.heap.size 0 (.int .i64 0) rfl).put w.heap.size 1 (.int .i64 (g : Int)) rfl).put w.heap.size 2 (.slice A rs.length c) rfl).put w.heap.size 3 (.int .i64 (p : Int)) rfl
    generalize (((w3.setCell ⟨w.heap.size, 0, none⟩ (.int .i64 0)).setCell ⟨w.heap.size, 1, none⟩ (.int .i64 (g : Int))).setCell ⟨w.heap.size, 2, none⟩ (.slice A rs.length c)).setCell ⟨w.heap.size, 3, none⟩ (.int .i64 (p : Int)) = wf at *
    have q0 : wf.cell? ⟨w.heap.size, 0, none⟩ = some (.int .i64 0) := hKf.cell 0
    have q1 : wf.cell? ⟨w.heap.size, 1, none⟩ = some (.int .i64 (g : Int)) := hKf.cell 1
    have q2 : wf.cell? ⟨w.heap.size, 2, none⟩ = some (.slice A rs.length c) := hKf.cell 2
    have q3 : wf.cell? ⟨w.heap.size, 3, none⟩ = some (.int .i64 (p : Int)) := hKf.cell 3
    refine bodyPost_ret (v := .tuple #[.agg #[.int .i64 0, .int .i64 (g : Int), (.slice A rs.length c), .int .i64 (p : Int)], v]) (by simp [results, Try.results26, go_sem, q0, q1, q2, q3]) rfl ?_
    have hlt := HL3.out
    exact ⟨A, c, v, rfl, (HR.out.keep (fun k hk _ => hkp.block k (by omega) (by omega)) hkp.size).more (fun k hk => by omega), (HW.out.keep (fun k hk _ => hkp.block k (by omega) (by omega)) hkp.size).more (fun k hk => by omega), HB4.out.trans (hkp.below HB4.out.size (fun k e => by omega))⟩
  · have hgen := hw.gen
    have hoth := hw.oth
    rw [hst, Nat.sub_self] at hoth
    rw [hst] at hgen
    have HRm := Lib.hid (fun W (hb : Below w.heap.size w W) => (remains_any W q2 _ (hk2.below hb hk2.lt) st g (by omega) (by rw [hl2]; exact h1) (by rw [hl2]; exact h2) (by omega)).mono (fun e w' hr => hr.exam (by have := hw.ch; rw [hst] at this; exact this) (by have := hw.none; rw [hst] at this; exact this)))
    rw [hl2] at HRm
    rw [hgen] at HG2
    have hg1 := hw.g1
    generalize genOf (half L 0 sz) = g1 at *
    rw [hst] at HRm ⊢
    have e1 : ((g : Int) == 0) = false := by simp; omega
    have e2 : ¬ (g : Int) ≤ (g1 : Int) := by omega
    have e2' : (g1 : Int) < (g : Int) := by omega
    generalize remWs (half L sz sz) sz p = ws at *
    clear hk1 hk2 h1 h2 hgen hoth hg1 hl1 hl2 hg hw hst
    by_cases hz : g1 = 0
    · subst hz
      rw [show ((0 : Nat) : Int) = 0 from rfl] at HG1 e2 e2'
      go_enter Try.func26, Try.ntmps26
      go_wp2_with fail
      have hA1 := Blk.new w 59 #[.int .i64 0, .int .i64 0, .slice none 0 0, .int .i64 0] _ rfl
      have hB1 := (Below.refl w.heap.size w).alloc (Nat.le_refl _) (.cells #[.int .i64 0, .int .i64 0, .slice none 0 0, .int .i64 0] 59)
      have hS1 : (w.alloc (.cells #[.int .i64 0, .int .i64 0, .slice none 0 0, .int .i64 0] 59)).heap.size = w.heap.size + 1 := by simp
      generalize w.alloc (.cells #[.int .i64 0, .int .i64 0, .slice none 0 0, .int .i64 0] 59) = w0 at *
      have HA1 := Lib.hid hA1
      have HB1 := Lib.hid hB1
      have HS1 := Lib.hid hS1
      clear hA1 hB1 hS1
      refine (HG1.out w0 HB1.out).mono ?_
      rintro e w1 ⟨rfl, hb⟩
      have HB2 := Lib.hid (HB1.out.trans (hb.mono HB1.out.size))
      have HA2 := Lib.hid (HA1.out.below hb HA1.out.lt)
      clear hb
      go_wp2_with fail
      refine (HG2.out w1 HB2.out).mono ?_
      rintro e w2 ⟨rfl, hb⟩
      have HB3 := Lib.hid (HB2.out.trans (hb.mono HB2.out.size))
      have HA3 := Lib.hid (HA2.out.below hb HA2.out.lt)
      clear hb
      go_wp2_with fail
      refine (HRm.out w2 HB3.out).mono ?_
      rintro e w3 ⟨A, c, v, rfl, hr, hw, hb⟩
      have HR := Lib.hid hr
      have HW := Lib.hid hw
      have HB4 := Lib.hid (HB3.out.trans (hb.mono HB3.out.size))
      have HA4 := Lib.hid (HA3.out.below hb HA3.out.lt)
      have HL3 := Lib.hid HA3.out.lt
      clear hb hr hw
      have r0 := HA4.out.cell 0
      have r1 := HA4.out.cell 1
      have r2 := HA4.out.cell 2
      have r3 := HA4.out.cell 3
      have f0 := HA4.out.frozen 0
      have f1 := HA4.out.frozen 1
      have f2 := HA4.out.frozen 2
      have f3 := HA4.out.frozen 3
      simp only [List.getElem?_cons_zero, List.getElem?_cons_succ] at r0 r1 r2 r3
      go_wp2
      have hKf := (((HA4.out.put 0 (.int .i64 (sz : Int))).put 1 (.int .i64 (g : Int))).put 2 (.slice A rs.length c)).put 3 (.int .i64 (p : Int))
      have hkp := ((((Kp.refl (fun k => k = w.heap.size) w3).put w.heap.size 0 (.int .i64 (sz : Int)) rfl).put w.heap.size 1 (.int .i64 (g : Int)) rfl).put w.heap.size 2 (.slice A rs.length c) rfl).put w.heap.size 3 (.int .i64 (p : Int)) rfl
      generalize (((w3.setCell ⟨w.heap.size, 0, none⟩ (.int .i64 (sz : Int))).setCell ⟨w.heap.size, 1, none⟩ (.int .i64 (g : Int))).setCell ⟨w.heap.size, 2, none⟩ (.slice A rs.length c)).setCell ⟨w.heap.size, 3, none⟩ (.int .i64 (p : Int)) = wf at *
      have q0 : wf.cell? ⟨w.heap.size, 0, none⟩ = some (.int .i64 (sz : Int)) := hKf.cell 0
      have q1 : wf.cell? ⟨w.heap.size, 1, none⟩ = some (.int .i64 (g : Int)) := hKf.cell 1
      have q2 : wf.cell? ⟨w.heap.size, 2, none⟩ = some (.slice A rs.length c) := hKf.cell 2
      have q3 : wf.cell? ⟨w.heap.size, 3, none⟩ = some (.int .i64 (p : Int)) := hKf.cell 3
      refine bodyPost_ret (v := .tuple #[.agg #[.int .i64 (sz : Int), .int .i64 (g : Int), (.slice A rs.length c), .int .i64 (p : Int)], v]) (by simp [results, Try.results26, go_sem, q0, q1, q2, q3]) rfl ?_
      have hlt := HL3.out
      exact ⟨A, c, v, rfl, (HR.out.keep (fun k hk _ => hkp.block k (by omega) (by omega)) hkp.size).more (fun k hk => by omega), (HW.out.keep (fun k hk _ => hkp.block k (by omega) (by omega)) hkp.size).more (fun k hk => by omega), HB4.out.trans (hkp.below HB4.out.size (fun k e => by omega))⟩
    · have e3 : ((g1 : Int) == 0) = false := by simp; omega
      go_enter Try.func26, Try.ntmps26
      go_wp2_with fail
      have hA1 := Blk.new w 59 #[.int .i64 0, .int .i64 0, .slice none 0 0, .int .i64 0] _ rfl
      have hB1 := (Below.refl w.heap.size w).alloc (Nat.le_refl _) (.cells #[.int .i64 0, .int .i64 0, .slice none 0 0, .int .i64 0] 59)
      have hS1 : (w.alloc (.cells #[.int .i64 0, .int .i64 0, .slice none 0 0, .int .i64 0] 59)).heap.size = w.heap.size + 1 := by simp
      generalize w.alloc (.cells #[.int .i64 0, .int .i64 0, .slice none 0 0, .int .i64 0] 59) = w0 at *
      have HA1 := Lib.hid hA1
      have HB1 := Lib.hid hB1
      have HS1 := Lib.hid hS1
      clear hA1 hB1 hS1
      refine (HG1.out w0 HB1.out).mono ?_
      rintro e w1 ⟨rfl, hb⟩
      have HB2 := Lib.hid (HB1.out.trans (hb.mono HB1.out.size))
      have HA2 := Lib.hid (HA1.out.below hb HA1.out.lt)
      clear hb
      go_wp2_with fail
      refine (HG2.out w1 HB2.out).mono ?_
      rintro e w2 ⟨rfl, hb⟩
      have HB3 := Lib.hid (HB2.out.trans (hb.mono HB2.out.size))
      have HA3 := Lib.hid (HA2.out.below hb HA2.out.lt)
      clear hb
      go_wp2_with fail
      refine (HRm.out w2 HB3.out).mono ?_
      rintro e w3 ⟨A, c, v, rfl, hr, hw, hb⟩
      have HR := Lib.hid hr
      have HW := Lib.hid hw
      have HB4 := Lib.hid (HB3.out.trans (hb.mono HB3.out.size))
      have HA4 := Lib.hid (HA3.out.below hb HA3.out.lt)
      have HL3 := Lib.hid HA3.out.lt
      clear hb hr hw
      have r0 := HA4.out.cell 0
      have r1 := HA4.out.cell 1
      have r2 := HA4.out.cell 2
      have r3 := HA4.out.cell 3
      have f0 := HA4.out.frozen 0
      have f1 := HA4.out.frozen 1
      have f2 := HA4.out.frozen 2
      have f3 := HA4.out.frozen 3
      simp only [List.getElem?_cons_zero, List.getElem?_cons_succ] at r0 r1 r2 r3
      go_wp2
      have hKf := (((HA4.out.put 0 (.int .i64 (sz : Int))).put 1 (.int .i64 (g : Int))).put 2 (.slice A rs.length c)).put 3 (.int .i64 (p : Int))
      have hkp := ((((Kp.refl (fun k => k = w.heap.size) w3).put w.heap.size 0 (.int .i64 (sz : Int)) rfl).put w.heap.size 1 (.int .i64 (g : Int)) rfl).put w.heap.size 2 (.slice A rs.length c) rfl).put w.heap.size 3 (.int .i64 (p : Int)) rfl
      generalize (((w3.setCell ⟨w.heap.size, 0, none⟩ (.int .i64 (sz : Int))).setCell ⟨w.heap.size, 1, none⟩ (.int .i64 (g : Int))).setCell ⟨w.heap.size, 2, none⟩ (.slice A rs.length c)).setCell ⟨w.heap.size, 3, none⟩ (.int .i64 (p : Int)) = wf at *
      have q0 : wf.cell? ⟨w.heap.size, 0, none⟩ = some (.int .i64 (sz : Int)) := hKf.cell 0
      have q1 : wf.cell? ⟨w.heap.size, 1, none⟩ = some (.int .i64 (g : Int)) := hKf.cell 1
      have q2 : wf.cell? ⟨w.heap.size, 2, none⟩ = some (.slice A rs.length c) := hKf.cell 2
      have q3 : wf.cell? ⟨w.heap.size, 3, none⟩ = some (.int .i64 (p : Int)) := hKf.cell 3
      refine bodyPost_ret (v := .tuple #[.agg #[.int .i64 (sz : Int), .int .i64 (g : Int), (.slice A rs.length c), .int .i64 (p : Int)], v]) (by simp [results, Try.results26, go_sem, q0, q1, q2, q3]) rfl ?_
      have hlt := HL3.out
      exact ⟨A, c, v, rfl, (HR.out.keep (fun k hk _ => hkp.block k (by omega) (by omega)) hkp.size).more (fun k hk => by omega), (HW.out.keep (fun k hk _ => hkp.block k (by omega) (by omega)) hkp.size).more (fun k hk => by omega), HB4.out.trans (hkp.below HB4.out.size (fun k e => by omega))⟩
end Go.Proofs.Ytaoaegkfejlgkaa.Dsk
