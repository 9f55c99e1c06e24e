/-
  Parse.
-/
import Derived.Test.YtkenananejgcpaaGreatDoorJPa12
namespace Go.Proofs.YtkenananejgcpaaGreatDoor.Jsn
open Go.RowKit Txt
set_option maxRecDepth 100000
theorem results_ctt {fn : Func} {p q s : Tmp} {tp : TypeId} (h : fn.results = #[.cell p tp, .tmp q, .tmp s]) (tmps : Array Value) (P : Program) (w : World) :
    (results fn tmps).run P w = ((asAddr (tmps.getD p undef)).run P w).andThen fun a w₁ => ((loadVar tp a).run P w₁).andThen fun x w₂ => .ok (.tuple #[x, tmps.getD q undef, tmps.getD s undef]) w₂ := by
  simp only [results, h]
  simp [Sem.run_bind, Result.andThen]
set_option maxHeartbeats 4000000 in
theorem Parse_any (t : List UInt8) (d b : Nat) (v : V) (A : Option Addr) (c : Nat) (w : World) (hT : Tabs w) (h2 : 3 + 1 ≤ w.heap.size) (hconv : ∀ W, Below w.heap.size w W → (convert 51 9 (.slice A (t.length : Nat) c)).run Tryz.prog W = .ok (.string (mk t)) W)
    (hv : ValC t d 0 v b) (hsk : Skips t b t.length) (hl : t.length ≤ 16384) (hd0 : 1 ≤ d) (hd : d ≤ 32) (hw : wrong t 0 < 0) :
    Calls Tryz.prog 19 #[.slice A (t.length : Nat) c, .int .i64 (d : Nat)] w fun e w' => ∃ val, e = .returned (.tuple #[val, .int .i64 0, .int .i64 0]) ∧ HoldsP (fun k => w.heap.size ≤ k) w' val v ∧ Below w.heap.size w w' := by
  have hms := mk_size
  have hmt := mk_toList
  have hb1 : Below w.heap.size w (w.alloc val0) := (Below.refl _ w).alloc (Nat.le_refl _) _
  have hc1 := hconv _ hb1
  have HW := Lib.hid (wrong_any t (w.alloc val0) (hT.below hb1 h2) (by simp only [World.size_alloc]; omega) (by omega))
  have HB1 := Lib.hid hb1
  have HV1 : Hid (Blk (w.alloc val0) w.heap.size 27 #[.int .i64 0, .bool false, .string ⟨#[]⟩, .slice none 0 0, .slice none 0 0]) := Lib.hid (heap_alloc_new w _)
  have l1 : ¬ ((16384 : Int) < (t.length : Int)) := by omega
  have l2 : ¬ ((d : Int) < 1) := by omega
  have l3 : ¬ ((32 : Int) < (d : Int)) := by omega
  have l4 : ¬ (0 ≤ wrong t 0) := by omega
  have HP := Lib.hid (fun w => parse_any t d b v w hv hsk (by omega) (by omega))
  generalize wrong t 0 = ww at *
  clear hT h2 hconv hv hsk hl hd0 hd hw hb1
  go_enter Tryz.func19, Tryz.ntmps19
  go_wp2_with fail
  refine HW.out.mono ?_
  rintro e w1 ⟨rfl, hb1⟩
  simp only [World.size_alloc] at hb1
  have hv1 := HV1.out.below hb1 (by omega)
  have HC := Lib.hid (HP.out w1)
  have HB2 : Hid (Below w.heap.size w w1) := Lib.hid (HB1.out.trans (hb1.mono (by omega)))
  have s1 := hb1.size
  simp only [World.size_alloc] at s1
  have HV2 := Lib.hid hv1
  clear hb1 hv1 HW HV1 HB1 hc1
  go_wp2_with fail
  refine HC.out.mono ?_
  rintro e w2 ⟨val, rfl, hho, hb2⟩
  obtain ⟨A', ca', B', cb', rfl, -⟩ := id hho
  have hv2 := HV2.out.below hb2 (by omega)
  have k0 := hv2.cell 0
  have k1 := hv2.cell 1
  have k2 := hv2.cell 2
  have k3 := hv2.cell 3
  have k4 := hv2.cell 4
  have g0 := Lib.frozen_of_heap hv2 0
  have g1 := Lib.frozen_of_heap hv2 1
  have g2 := Lib.frozen_of_heap hv2 2
  have g3 := Lib.frozen_of_heap hv2 3
  have g4 := Lib.frozen_of_heap hv2 4
  have HH := Lib.hid hho
  have HB3 : Hid (Below w.heap.size w w2) := Lib.hid (HB2.out.trans (hb2.mono (by omega)))
  clear hho hb2 hv2 HC HV2 HB2
  go_wp2
  (try simp only [Exit.inBlock, Exit.then])
  refine bodyPost_ret (v := .tuple #[.agg #[.int .i64 v.kind, .bool v.yes, .string (mk v.text), .slice A' (v.list.length : Nat) ca', .slice B' (v.mem.length : Nat) cb'], .int .i64 0, .int .i64 0]) ?_ rfl ?_
  · rw [results_ctt rfl]
    go_simp
  refine ⟨_, rfl, ?_, ?_⟩
  · exact (((((HH.out.put (by omega) _ _).put (by omega) _ _).put (by omega) _ _).put (by omega) _ _).put (by omega) _ _).mono (fun q hq _ => by omega)
  · have hk := fun (b : World) (k i : Nat) (x : Value) (hk : w.heap.size ≤ k) (h : Below w.heap.size w b) => h.setCell (p := ⟨k, i, none⟩) hk x
    exact hk _ _ _ _ (by omega) (hk _ _ _ _ (by omega) (hk _ _ _ _ (by omega) (hk _ _ _ _ (by omega) (hk _ _ _ _ (by omega) HB3.out))))
end Go.Proofs.YtkenananejgcpaaGreatDoor.Jsn
