/-
  parse, Parse: the value of a text.
-/
import Derived.Test.YtkenananejgcpaaGreatDoorJPa11
import Derived.Defers
import Derived.Recover
namespace Go.Proofs.YtkenananejgcpaaGreatDoor.Jsn
open Go.RowKit Txt
set_option maxRecDepth 100000
theorem caught_idle (a0 a1 a2 : Addr) (w : World) : CallsD Tryz.prog 55 #[.pointer (some a0), .pointer (some a1), .pointer (some a2)] .returning w fun e u' w' => e = .returned (.tuple #[]) ∧ u' = .returning ∧ w' = w := by
  refine callsD_of_wpS Tryz.func55 rfl fun c₀ cs hu => ?_
  apply wpS_seq
  apply wpS_region
  simp [wpOpsS, go_sem, recoverD, hu, Tryz.ntmps55, Exit.thenS]
  apply wpS_seq
  apply wpS_seq
  apply wpS_region
  simp [wpOpsS, go_sem, Exit.thenS, Array.replicate_succ]
  refine wpS_cond (t := true) (by simp [Act.eval]) ?_
  simp only [if_true]
  refine wpS_of_wp ?_
  go_wp2
  cases c₀
  simp_all [bodyPostS, results, Tryz.results55, Exit.thenS]
theorem HoldsP.put {Pd : Nat → Prop} {w : World} {val : Value} {v : V} (h : HoldsP Pd w val v) {k : Nat} (hk : ¬ Pd k) (i : Nat) (u : Value) : HoldsP Pd (w.setCell ⟨k, i, none⟩ u) val v :=
  h.kept (fun q hq hl => (turned w k i u).block q hl (fun e => hk (by injection e with e; rw [← e]; exact hq)))
theorem HoldsP.G {Pd : Nat → Prop} {w w' : World} {pp : Nat} {val : Value} {v : V} (h : HoldsP Pd w val v) (hg : Jsn.G pp w w') (hk : ¬ Pd pp) : HoldsP Pd w' val v :=
  h.kept (fun q hq hl => hg.block q hl (fun e => hk (by injection e with e; rw [← e]; exact hq)))
theorem results_three {fn : Func} {p q s : Tmp} {tp tq ts : TypeId} (h : fn.results = #[.cell p tp, .cell q tq, .cell s ts]) (tmps : Array Value) (P : Program) (w : World) :
    (results fn tmps).run P w = ((asAddr (tmps.getD p undef)).run P w).andThen fun a w₁ => ((loadVar tp a).run P w₁).andThen fun x w₂ => ((asAddr (tmps.getD q undef)).run P w₂).andThen fun b w₃ => ((loadVar tq b).run P w₃).andThen fun y w₄ => ((asAddr (tmps.getD s undef)).run P w₄).andThen fun c w₅ => ((loadVar ts c).run P w₅).andThen fun z w₆ => .ok (.tuple #[x, y, z]) w₆ := by
  simp only [results, h]
  simp [Sem.run_bind, Result.andThen]
set_option maxHeartbeats 4000000 in
theorem parse_any (t : List UInt8) (d b : Nat) (v : V) (w : World) (hv : ValC t d 0 v b) (hsk : Skips t b t.length) (hl : t.length ≤ 100000) (hd : d ≤ 100000) :
    Calls Tryz.prog 37 #[.string (mk t), .int .i64 (d : Nat)] w fun e w' => ∃ val, e = .returned (.tuple #[val, .int .i64 0, .int .i64 0]) ∧ HoldsP (fun k => w.heap.size ≤ k) w' val v ∧ Below w.heap.size w w' := by
  have hmf : ∀ (fn : Fn) (first cap : Array Value) (w : World), (Instr.makeFunc fn first cap).run Tryz.prog w = .ok (.func fn first cap) w := fun _ _ _ _ => rfl
  have hms := mk_size
  have hmt := mk_toList
  obtain ⟨w1, hw1⟩ : ∃ w1, w1 = (((w.alloc val0).alloc (.cells #[.int .i64 0] 48)).alloc (.cells #[.int .i64 0] 3)).alloc (.cells #[.string (mk t), .int .i64 0, .int .i64 (d : Nat)] 94) := ⟨_, rfl⟩
  have hb1 : Below w.heap.size w w1 := by rw [hw1]; exact ((((Below.refl _ w).alloc (Nat.le_refl _) _).alloc (by simp) _).alloc (by simp; omega) _).alloc (by simp; omega) _
  have hsz1 : w1.heap.size = w.heap.size + 4 := by rw [hw1]; simp
  have hp1 : Ps w1 (w.heap.size + 3) t 0 d := by
    rw [hw1]
    have := heap_alloc_new (((w.alloc val0).alloc (.cells #[.int .i64 0] 48)).alloc (.cells #[.int .i64 0] 3)) (.cells #[.string (mk t), .int .i64 0, .int .i64 (d : Nat)] 94)
    simp only [World.size_alloc] at this
    exact this
  have hv1 : Blk w1 w.heap.size 27 #[.int .i64 0, .bool false, .string ⟨#[]⟩, .slice none 0 0, .slice none 0 0] := by
    rw [hw1]
    exact (Below.heap_alloc _ _ _ (by simp; omega)).trans ((Below.heap_alloc _ _ _ (by simp; omega)).trans ((Below.heap_alloc _ _ _ (by simp)).trans (heap_alloc_new w _)))
  have he1 : Blk w1 (w.heap.size + 1) 48 #[.int .i64 0] := by
    rw [hw1]
    have := heap_alloc_new (w.alloc val0) (.cells #[.int .i64 0] 48)
    rw [World.size_alloc] at this
    exact (Below.heap_alloc _ _ _ (by simp)).trans ((Below.heap_alloc _ _ _ (by simp)).trans this)
  have ha1 : Blk w1 (w.heap.size + 2) 3 #[.int .i64 0] := by
    rw [hw1]
    have := heap_alloc_new ((w.alloc val0).alloc (.cells #[.int .i64 0] 48)) (.cells #[.int .i64 0] 3)
    simp only [World.size_alloc] at this
    exact (Below.heap_alloc _ _ _ (by simp)).trans this
  have HV := Lib.hid (hv (w.heap.size + 3) d w1 (Nat.le_refl _) hd hp1)
  have HB1 := Lib.hid (show Below w.heap.size w w1 ∧ Blk w1 w.heap.size 27 #[.int .i64 0, .bool false, .string ⟨#[]⟩, .slice none 0 0, .slice none 0 0] ∧ Blk w1 (w.heap.size + 1) 48 #[.int .i64 0] ∧ Blk w1 (w.heap.size + 2) 3 #[.int .i64 0] ∧ w1.heap.size = w.heap.size + 4 from ⟨hb1, hv1, he1, ha1, hsz1⟩)
  have HS := Lib.hid hsk
  have HL := Lib.hid hl
  clear hb1 hsz1 hp1 hv1 he1 ha1 hv hsk hl hd
  go_enter_defers Tryz.func37, Tryz.ntmps37
  go_wp2_with fail
  rw [← hw1]
  clear hw1
  refine HV.out.mono ?_
  rintro e w2 ⟨val, rfl, hho, hp2, hg2⟩
  obtain ⟨A', ca', B', cb', rfl, -⟩ := id hho
  have hb2 := HB1.out.2.1.grown hg2 (fun e => by injection e; omega)
  have k0 := hb2.cell 0
  have k1 := hb2.cell 1
  have k2 := hb2.cell 2
  have k3 := hb2.cell 3
  have k4 := hb2.cell 4
  have g0 := Lib.frozen_of_heap hb2 0
  have g1 := Lib.frozen_of_heap hb2 1
  have g2 := Lib.frozen_of_heap hb2 2
  have g3 := Lib.frozen_of_heap hb2 3
  have g4 := Lib.frozen_of_heap hb2 4
  obtain ⟨W, hW⟩ : ∃ W, W = ((((w2.setCell ⟨w.heap.size, 0, none⟩ (.int .i64 v.kind)).setCell ⟨w.heap.size, 1, none⟩ (.bool v.yes)).setCell ⟨w.heap.size, 2, none⟩ (.string (mk v.text))).setCell ⟨w.heap.size, 3, none⟩ (.slice A' (v.list.length : Nat) ca')).setCell ⟨w.heap.size, 4, none⟩ (.slice B' (v.mem.length : Nat) cb') := ⟨_, rfl⟩
  have HBW : Hid (Blk W w.heap.size 27 #[.int .i64 v.kind, .bool v.yes, .string (mk v.text), .slice A' (v.list.length : Nat) ca', .slice B' (v.mem.length : Nat) cb']) := Lib.hid (by
    rw [hW]
    exact blk_set (blk_set (blk_set (blk_set (blk_set hb2 0 _) 1 _) 2 _) 3 _) 4 _)
  have hpW : Ps W (w.heap.size + 3) t b d := by
    rw [hW]
    exact ((((hp2.put (by omega) _ _).put (by omega) _ _).put (by omega) _ _).put (by omega) _ _).put (by omega) _ _
  have HHW : Hid (HoldsP (fun k => w1.heap.size ≤ k) W (.agg #[.int .i64 v.kind, .bool v.yes, .string (mk v.text), .slice A' (v.list.length : Nat) ca', .slice B' (v.mem.length : Nat) cb']) v) := Lib.hid (by
    have := HB1.out.2.2.2.2
    rw [hW]
    exact ((((hho.put (by omega) _ _).put (by omega) _ _).put (by omega) _ _).put (by omega) _ _).put (by omega) _ _)
  have hgW : w2.grownBy W (some w.heap.size) := by
    rw [hW]
    exact (((( (turned _ _ _ _)).trans (turned _ _ _ _)).trans (turned _ _ _ _)).trans (turned _ _ _ _)).trans (turned _ _ _ _)
  have HE : Hid (Blk W (w.heap.size + 1) 48 #[.int .i64 0]) := Lib.hid ((HB1.out.2.2.1.grown hg2 (fun e => by injection e; omega)).grown hgW (fun e => by injection e; omega))
  have HA : Hid (Blk W (w.heap.size + 2) 3 #[.int .i64 0]) := Lib.hid ((HB1.out.2.2.2.1.grown hg2 (fun e => by injection e; omega)).grown hgW (fun e => by injection e; omega))
  have HBL : Hid (Below w.heap.size w W) := Lib.hid ((HB1.out.1.grown hg2 (by have := HB1.out.2.2.2.2; omega) (fun j hj => by cases hj; omega)).grown hgW (by have := hg2.size; have := HB1.out.2.2.2.2; omega) (fun j hj => by cases hj; omega))
  have hSW : w.heap.size + 4 ≤ W.heap.size := by have := hg2.size; have := hgW.size; have := HB1.out.2.2.2.2; omega
  have HK := Lib.hid (skip_any (w.heap.size + 3) t b t.length d W hpW HS.out HL.out)
  have hs1 := HB1.out.2.2.2.2
  clear hho hp2 hg2 hb2 hpW hgW HV
  go_wp2_with fail
  rw [← hW]
  clear hW k0 k1 k2 k3 k4 g0 g1 g2 g3 g4
  refine HK.out.mono ?_
  rintro e w3 ⟨rfl, hp3, hg3⟩
  have hb3 := HBW.out.grown hg3 (fun e => by injection e; omega)
  have he3 := HE.out.grown hg3 (fun e => by injection e; omega)
  have ha3 := HA.out.grown hg3 (fun e => by injection e; omega)
  have HH3 := Lib.hid (HHW.out.G hg3 (by omega))
  have HB3 : Hid (Below w.heap.size w w3) := Lib.hid (HBL.out.grown hg3 (by omega) (fun j hj => by cases hj; omega))
  have s3 := hg3.size
  obtain ⟨m0, m1, -⟩ := hp3.cells
  have k0 := hb3.cell 0
  have k1 := hb3.cell 1
  have k2 := hb3.cell 2
  have k3 := hb3.cell 3
  have k4 := hb3.cell 4
  have g0 := Lib.frozen_of_heap hb3 0
  have g1 := Lib.frozen_of_heap hb3 1
  have g2 := Lib.frozen_of_heap hb3 2
  have g3 := Lib.frozen_of_heap hb3 3
  have g4 := Lib.frozen_of_heap hb3 4
  have k5 := he3.cell 0
  have k6 := ha3.cell 0
  have g5 := Lib.frozen_of_heap he3 0
  have g6 := Lib.frozen_of_heap ha3 0
  have hlt : ¬ ((t.length : Int) < (t.length : Int)) := by omega
  clear hp3 hg3 hb3 he3 ha3 HK HBW HE HA HBL HHW
  go_wp2
  refine leaves_cons (f := 55) (args := #[.pointer (some ⟨w.heap.size, 0, none⟩), .pointer (some ⟨w.heap.size + 1, 0, none⟩), .pointer (some ⟨w.heap.size + 1 + 1, 0, none⟩)]) (by simp) (by simp [go_sem]) ?_
  refine (caught_idle ⟨w.heap.size, 0, none⟩ ⟨w.heap.size + 1, 0, none⟩ ⟨w.heap.size + 1 + 1, 0, none⟩ _).mono ?_
  rintro e u' w'' ⟨rfl, rfl, rfl⟩
  simp only [Leaves, settle]
  refine ⟨.tuple #[.agg #[.int .i64 v.kind, .bool v.yes, .string (mk v.text), .slice A' (v.list.length : Nat) ca', .slice B' (v.mem.length : Nat) cb'], .int .i64 0, .int .i64 0], ?_, _, rfl, ?_, ?_⟩
  · rw [results_three rfl]
    go_simp
  · exact (((((((HH3.out.put (by omega) _ _).put (by omega) _ _).put (by omega) _ _).put (by omega) _ _).put (by omega) _ _).put (by omega) _ _).put (by omega) _ _).mono (fun q hq _ => by omega)
  · have hk := fun (b : World) (k i : Nat) (x : Value) (hk : w.heap.size ≤ k) (h : Below w.heap.size w b) => h.setCell (p := ⟨k, i, none⟩) hk x
    exact hk _ _ _ _ (by omega) (hk _ _ _ _ (by omega) (hk _ _ _ _ (by omega) (hk _ _ _ _ (by omega) (hk _ _ _ _ (by omega) (hk _ _ _ _ (by omega) (hk _ _ _ _ (by omega) HB3.out))))))
end Go.Proofs.YtkenananejgcpaaGreatDoor.Jsn
