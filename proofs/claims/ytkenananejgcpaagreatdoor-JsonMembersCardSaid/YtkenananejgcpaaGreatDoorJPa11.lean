/-
  value: a value is read. (Written by gen_pa11.py.)
-/
import Derived.Test.YtkenananejgcpaaGreatDoorJPa10
namespace Go.Proofs.YtkenananejgcpaaGreatDoor.Jsn
open Go.RowKit Txt
theorem G.put {pp : Nat} {a b : World} (h : G pp a b) {k : Nat} (hk : a.heap.size ≤ k) (i : Nat) (v : Value) : G pp a (b.setCell ⟨k, i, none⟩ v) := by
  have ht := turned b k i v
  have hs := h.size
  exact ⟨ht.os.trans h.os, ht.tape.trans h.tape, ht.output.trans h.output, Nat.le_trans hs ht.size, fun q hq hn => (ht.block q (by omega) (fun e => by injection e; omega)).trans (h.block q hq hn)⟩
theorem Ps.put {w : World} {pp : Nat} {t : List UInt8} {a r : Nat} (h : Ps w pp t a r) {k : Nat} (hk : k ≠ pp) (i : Nat) (v : Value) : Ps (w.setCell ⟨k, i, none⟩ v) pp t a r :=
  ((turned w k i v).block pp h.lt (fun e => hk (by injection e with e; exact e.symm))).trans h
theorem RdP.put {Pd : Nat → Prop} {w : World} {x : Addr} {v : V} (h : RdP Pd w x v) {k : Nat} (hk : ¬ Pd k) (i : Nat) (u : Value) : RdP Pd (w.setCell ⟨k, i, none⟩ u) x v :=
  h.kept (fun q hq hl => (turned w k i u).block q hl (fun e => hk (by injection e with e; rw [← e]; exact hq)))
theorem cell_put {w : World} {y : Addr} {v : Value} (h : w.cell? y = some v) {k : Nat} (hk : y.block ≠ k) (i : Nat) (u : Value) : (w.setCell ⟨k, i, none⟩ u).cell? y = some v :=
  (World.cell?_of_block ((turned w k i u).block y.block (lt_cell h) (fun e => hk (by injection e with e)))).trans h
abbrev val0 : Obj := .cells #[.int .i64 0, .bool false, .string ⟨#[]⟩, .slice none 0 0, .slice none 0 0] 27
theorem HoldsP.leaf (Pd : Nat → Prop) (w : World) (k : Int) (y : Bool) (tx : List UInt8) : HoldsP Pd w (.agg #[.int .i64 k, .bool y, .string (mk tx), .slice none 0 0, .slice none 0 0]) (.mk k y tx [] []) :=
  ⟨none, 0, none, 0, rfl, by simp [V.list], by simp [V.mem], by simp [V.list], by simp [V.mem], by simp [V.mem]⟩
theorem results_one {fn : Func} {p : Tmp} {ty : TypeId} (h : fn.results = #[.cell p ty]) (tmps : Array Value) (P : Program) (w : World) :
    (results fn tmps).run P w = ((asAddr (tmps.getD p undef)).run P w).andThen fun a w₁ => (loadVar ty a).run P w₁ := by
  simp only [results, h]
  simp [Sem.run_bind, Result.andThen]
set_option maxRecDepth 100000
set_option maxHeartbeats 4000000 in
theorem value_null (t : List UInt8) (d a a' : Nat) (rest : List UInt8) (hw : t.drop a' = [110, 117, 108, 108] ++ rest) (hs : Skips t a a') (hl : t.length ≤ 100000) : ValC t d a (.mk 1 false [] [] []) (a' + 4) := by
  intro pp r w hr hr1 hp
  have hpl := hp.lt
  have hsl := hs.2.1
  have hbA : Below w.heap.size w (w.alloc val0) := (Below.refl _ w).alloc (Nat.le_refl _) _
  have HK := Lib.hid (skip_any pp t a a' r (w.alloc val0) (hp.below hbA) hs hl)
  have HB0 : Hid (Blk (w.alloc val0) w.heap.size 27 #[.int .i64 0, .bool false, .string ⟨#[]⟩, .slice none 0 0, .slice none 0 0]) := Lib.hid (heap_alloc_new w _)
  have HGA := Lib.hid (show G pp w (w.alloc val0) from G.of_below hbA)
  have HNB : Hid ((nb t a').toNat = 110) := Lib.hid (by unfold nb; rw [List.getD_eq_getElem?_getD, ← Nat.add_zero a', ← List.getElem?_drop, hw]; rfl)
  have HW := Lib.hid hw
  have HL := Lib.hid hl
  clear hw hl
  clear hp hs hbA
  go_enter Tryz.func56, Tryz.ntmps56
  go_wp2_with fail
  refine HK.out.mono ?_
  rintro e w1 ⟨rfl, hp1, hg1⟩
  have HN := Lib.hid (next_any pp t a' r w1 hp1 hsl)
  rw [HNB.out] at HN
  have HG1 := Lib.hid (HGA.out.trans hg1)
  have HB1 := Lib.hid (HB0.out.grown hg1 (fun e => by injection e; omega))
  clear hp1 hg1 HK HB0 HGA
  go_wp2_with fail
  refine HN.out.mono ?_
  rintro e w2 ⟨rfl, hp2, hg2⟩
  have hw2 : w.heap.size < w2.heap.size := Nat.lt_of_lt_of_le HB1.out.lt hg2.size
  have HC := Lib.hid (takeAll_any pp t a' r [110, 117, 108, 108] rest w2 hp2 HW.out HL.out hsl)
  have HG2 := Lib.hid (HG1.out.trans hg2)
  have HB2 := Lib.hid (HB1.out.grown hg2 (fun e => by injection e; omega))
  clear hp2 hg2 HN HB1 HG1
  go_wp2_with fail
  refine HC.out.mono ?_
  rintro e w3 ⟨rfl, hp3, hg3⟩
  have hb3 := HB2.out.grown hg3 (fun e => by injection e; omega)
  have HG3 := Lib.hid (HG2.out.trans hg3)
  have HP3 := Lib.hid hp3
  have k0 := hb3.cell 0
  have k1 := hb3.cell 1
  have k2 := hb3.cell 2
  have k3 := hb3.cell 3
  have k4 := hb3.cell 4
  have g0 := Lib.frozen_of_heap hb3 0
  have g1 := Lib.frozen_of_heap hb3 1
  have g2 := Lib.frozen_of_heap hb3 2
  have g3 := Lib.frozen_of_heap hb3 3
  have g4 := Lib.frozen_of_heap hb3 4
  clear hp3 hg3 hb3 HC HB2 HG2
  go_wp2
  (try simp only [Exit.inBlock, Exit.then])
  refine bodyPost_ret (v := .agg #[.int .i64 1, .bool false, .string ⟨#[]⟩, .slice none 0 0, .slice none 0 0]) ?_ rfl ?_
  · rw [results_one rfl]
    go_simp
  refine ⟨_, rfl, HoldsP.leaf _ _ 1 false [], ?_, ?_⟩
  · exact ((((HP3.out.put (by omega) _ _).put (by omega) _ _).put (by omega) _ _).put (by omega) _ _).put (by omega) _ _
  · exact ((((HG3.out.put (Nat.le_refl _) _ _).put (Nat.le_refl _) _ _).put (Nat.le_refl _) _ _).put (Nat.le_refl _) _ _).put (Nat.le_refl _) _ _
set_option maxHeartbeats 4000000 in
theorem value_true (t : List UInt8) (d a a' : Nat) (rest : List UInt8) (hw : t.drop a' = [116, 114, 117, 101] ++ rest) (hs : Skips t a a') (hl : t.length ≤ 100000) : ValC t d a (.mk 2 true [] [] []) (a' + 4) := by
  intro pp r w hr hr1 hp
  have hpl := hp.lt
  have hsl := hs.2.1
  have hbA : Below w.heap.size w (w.alloc val0) := (Below.refl _ w).alloc (Nat.le_refl _) _
  have HK := Lib.hid (skip_any pp t a a' r (w.alloc val0) (hp.below hbA) hs hl)
  have HB0 : Hid (Blk (w.alloc val0) w.heap.size 27 #[.int .i64 0, .bool false, .string ⟨#[]⟩, .slice none 0 0, .slice none 0 0]) := Lib.hid (heap_alloc_new w _)
  have HGA := Lib.hid (show G pp w (w.alloc val0) from G.of_below hbA)
  have HNB : Hid ((nb t a').toNat = 116) := Lib.hid (by unfold nb; rw [List.getD_eq_getElem?_getD, ← Nat.add_zero a', ← List.getElem?_drop, hw]; rfl)
  have HW := Lib.hid hw
  have HL := Lib.hid hl
  clear hw hl
  clear hp hs hbA
  go_enter Tryz.func56, Tryz.ntmps56
  go_wp2_with fail
  refine HK.out.mono ?_
  rintro e w1 ⟨rfl, hp1, hg1⟩
  have HN := Lib.hid (next_any pp t a' r w1 hp1 hsl)
  rw [HNB.out] at HN
  have HG1 := Lib.hid (HGA.out.trans hg1)
  have HB1 := Lib.hid (HB0.out.grown hg1 (fun e => by injection e; omega))
  clear hp1 hg1 HK HB0 HGA
  go_wp2_with fail
  refine HN.out.mono ?_
  rintro e w2 ⟨rfl, hp2, hg2⟩
  have hw2 : w.heap.size < w2.heap.size := Nat.lt_of_lt_of_le HB1.out.lt hg2.size
  have HC := Lib.hid (takeAll_any pp t a' r [116, 114, 117, 101] rest w2 hp2 HW.out HL.out hsl)
  have HG2 := Lib.hid (HG1.out.trans hg2)
  have HB2 := Lib.hid (HB1.out.grown hg2 (fun e => by injection e; omega))
  clear hp2 hg2 HN HB1 HG1
  go_wp2_with fail
  refine HC.out.mono ?_
  rintro e w3 ⟨rfl, hp3, hg3⟩
  have hb3 := HB2.out.grown hg3 (fun e => by injection e; omega)
  have HG3 := Lib.hid (HG2.out.trans hg3)
  have HP3 := Lib.hid hp3
  have k0 := hb3.cell 0
  have k1 := hb3.cell 1
  have k2 := hb3.cell 2
  have k3 := hb3.cell 3
  have k4 := hb3.cell 4
  have g0 := Lib.frozen_of_heap hb3 0
  have g1 := Lib.frozen_of_heap hb3 1
  have g2 := Lib.frozen_of_heap hb3 2
  have g3 := Lib.frozen_of_heap hb3 3
  have g4 := Lib.frozen_of_heap hb3 4
  clear hp3 hg3 hb3 HC HB2 HG2
  go_wp2
  (try simp only [Exit.inBlock, Exit.then])
  refine bodyPost_ret (v := .agg #[.int .i64 2, .bool true, .string ⟨#[]⟩, .slice none 0 0, .slice none 0 0]) ?_ rfl ?_
  · rw [results_one rfl]
    go_simp
  refine ⟨_, rfl, HoldsP.leaf _ _ 2 true [], ?_, ?_⟩
  · exact ((((HP3.out.put (by omega) _ _).put (by omega) _ _).put (by omega) _ _).put (by omega) _ _).put (by omega) _ _
  · exact ((((HG3.out.put (Nat.le_refl _) _ _).put (Nat.le_refl _) _ _).put (Nat.le_refl _) _ _).put (Nat.le_refl _) _ _).put (Nat.le_refl _) _ _
set_option maxHeartbeats 4000000 in
theorem value_false (t : List UInt8) (d a a' : Nat) (rest : List UInt8) (hw : t.drop a' = [102, 97, 108, 115, 101] ++ rest) (hs : Skips t a a') (hl : t.length ≤ 100000) : ValC t d a (.mk 2 false [] [] []) (a' + 5) := by
  intro pp r w hr hr1 hp
  have hpl := hp.lt
  have hsl := hs.2.1
  have hbA : Below w.heap.size w (w.alloc val0) := (Below.refl _ w).alloc (Nat.le_refl _) _
  have HK := Lib.hid (skip_any pp t a a' r (w.alloc val0) (hp.below hbA) hs hl)
  have HB0 : Hid (Blk (w.alloc val0) w.heap.size 27 #[.int .i64 0, .bool false, .string ⟨#[]⟩, .slice none 0 0, .slice none 0 0]) := Lib.hid (heap_alloc_new w _)
  have HGA := Lib.hid (show G pp w (w.alloc val0) from G.of_below hbA)
  have HNB : Hid ((nb t a').toNat = 102) := Lib.hid (by unfold nb; rw [List.getD_eq_getElem?_getD, ← Nat.add_zero a', ← List.getElem?_drop, hw]; rfl)
  have HW := Lib.hid hw
  have HL := Lib.hid hl
  clear hw hl
  clear hp hs hbA
  go_enter Tryz.func56, Tryz.ntmps56
  go_wp2_with fail
  refine HK.out.mono ?_
  rintro e w1 ⟨rfl, hp1, hg1⟩
  have HN := Lib.hid (next_any pp t a' r w1 hp1 hsl)
  rw [HNB.out] at HN
  have HG1 := Lib.hid (HGA.out.trans hg1)
  have HB1 := Lib.hid (HB0.out.grown hg1 (fun e => by injection e; omega))
  clear hp1 hg1 HK HB0 HGA
  go_wp2_with fail
  refine HN.out.mono ?_
  rintro e w2 ⟨rfl, hp2, hg2⟩
  have hw2 : w.heap.size < w2.heap.size := Nat.lt_of_lt_of_le HB1.out.lt hg2.size
  have HC := Lib.hid (takeAll_any pp t a' r [102, 97, 108, 115, 101] rest w2 hp2 HW.out HL.out hsl)
  have HG2 := Lib.hid (HG1.out.trans hg2)
  have HB2 := Lib.hid (HB1.out.grown hg2 (fun e => by injection e; omega))
  clear hp2 hg2 HN HB1 HG1
  go_wp2_with fail
  refine HC.out.mono ?_
  rintro e w3 ⟨rfl, hp3, hg3⟩
  have hb3 := HB2.out.grown hg3 (fun e => by injection e; omega)
  have HG3 := Lib.hid (HG2.out.trans hg3)
  have HP3 := Lib.hid hp3
  have k0 := hb3.cell 0
  have k1 := hb3.cell 1
  have k2 := hb3.cell 2
  have k3 := hb3.cell 3
  have k4 := hb3.cell 4
  have g0 := Lib.frozen_of_heap hb3 0
  have g1 := Lib.frozen_of_heap hb3 1
  have g2 := Lib.frozen_of_heap hb3 2
  have g3 := Lib.frozen_of_heap hb3 3
  have g4 := Lib.frozen_of_heap hb3 4
  clear hp3 hg3 hb3 HC HB2 HG2
  go_wp2
  (try simp only [Exit.inBlock, Exit.then])
  refine bodyPost_ret (v := .agg #[.int .i64 2, .bool false, .string ⟨#[]⟩, .slice none 0 0, .slice none 0 0]) ?_ rfl ?_
  · rw [results_one rfl]
    go_simp
  refine ⟨_, rfl, HoldsP.leaf _ _ 2 false [], ?_, ?_⟩
  · exact ((((HP3.out.put (by omega) _ _).put (by omega) _ _).put (by omega) _ _).put (by omega) _ _).put (by omega) _ _
  · exact ((((HG3.out.put (Nat.le_refl _) _ _).put (Nat.le_refl _) _ _).put (Nat.le_refl _) _ _).put (Nat.le_refl _) _ _).put (Nat.le_refl _) _ _
set_option maxHeartbeats 4000000 in
theorem value_str (t : List UInt8) (d a a' : Nat) (o : List UInt8) (b : Nat) (h34 : (nb t a').toNat = 34) (ha : a' < t.length) (hq : Qd t (a' + 1) o b) (ho : o.length ≤ 1000000) (hs : Skips t a a') (hl : t.length ≤ 100000) : ValC t d a (.mk 4 false o [] []) (b) := by
  intro pp r w hr hr1 hp
  have hpl := hp.lt
  have hsl := hs.2.1
  have hbA : Below w.heap.size w (w.alloc val0) := (Below.refl _ w).alloc (Nat.le_refl _) _
  have HK := Lib.hid (skip_any pp t a a' r (w.alloc val0) (hp.below hbA) hs hl)
  have HB0 : Hid (Blk (w.alloc val0) w.heap.size 27 #[.int .i64 0, .bool false, .string ⟨#[]⟩, .slice none 0 0, .slice none 0 0]) := Lib.hid (heap_alloc_new w _)
  have HGA := Lib.hid (show G pp w (w.alloc val0) from G.of_below hbA)
  have HQ := Lib.hid (show (nb t a').toNat = 34 ∧ a' < t.length ∧ Qd t (a' + 1) o b ∧ t.length ≤ 100000 ∧ o.length ≤ 1000000 from ⟨h34, ha, hq, hl, ho⟩)
  clear h34 ha hq hl ho
  clear hp hs hbA
  go_enter Tryz.func56, Tryz.ntmps56
  go_wp2_with fail
  refine HK.out.mono ?_
  rintro e w1 ⟨rfl, hp1, hg1⟩
  have HN := Lib.hid (next_any pp t a' r w1 hp1 hsl)
  rw [HQ.out.1] at HN
  have HG1 := Lib.hid (HGA.out.trans hg1)
  have HB1 := Lib.hid (HB0.out.grown hg1 (fun e => by injection e; omega))
  clear hp1 hg1 HK HB0 HGA
  go_wp2_with fail
  refine HN.out.mono ?_
  rintro e w2 ⟨rfl, hp2, hg2⟩
  have hw2 : w.heap.size < w2.heap.size := Nat.lt_of_lt_of_le HB1.out.lt hg2.size
  have HC := Lib.hid (quoted_any pp t a' r o b w2 hp2 HQ.out.1 HQ.out.2.1 HQ.out.2.2.1 HQ.out.2.2.2.1 HQ.out.2.2.2.2)
  have HG2 := Lib.hid (HG1.out.trans hg2)
  have HB2 := Lib.hid (HB1.out.grown hg2 (fun e => by injection e; omega))
  clear hp2 hg2 HN HB1 HG1
  go_wp2_with fail
  refine HC.out.mono ?_
  rintro e w3 ⟨rfl, hp3, hg3⟩
  have hb3 := HB2.out.grown hg3 (fun e => by injection e; omega)
  have HG3 := Lib.hid (HG2.out.trans hg3)
  have HP3 := Lib.hid hp3
  have k0 := hb3.cell 0
  have k1 := hb3.cell 1
  have k2 := hb3.cell 2
  have k3 := hb3.cell 3
  have k4 := hb3.cell 4
  have g0 := Lib.frozen_of_heap hb3 0
  have g1 := Lib.frozen_of_heap hb3 1
  have g2 := Lib.frozen_of_heap hb3 2
  have g3 := Lib.frozen_of_heap hb3 3
  have g4 := Lib.frozen_of_heap hb3 4
  clear hp3 hg3 hb3 HC HB2 HG2
  go_wp2
  (try simp only [Exit.inBlock, Exit.then])
  refine bodyPost_ret (v := .agg #[.int .i64 4, .bool false, .string (mk o), .slice none 0 0, .slice none 0 0]) ?_ rfl ?_
  · rw [results_one rfl]
    go_simp
  refine ⟨_, rfl, HoldsP.leaf _ _ 4 false o, ?_, ?_⟩
  · exact ((((HP3.out.put (by omega) _ _).put (by omega) _ _).put (by omega) _ _).put (by omega) _ _).put (by omega) _ _
  · exact ((((HG3.out.put (Nat.le_refl _) _ _).put (Nat.le_refl _) _ _).put (Nat.le_refl _) _ _).put (Nat.le_refl _) _ _).put (Nat.le_refl _) _ _
set_option maxHeartbeats 4000000 in
theorem value_num (t : List UInt8) (d a a' : Nat) (k : Nat) (hk : nend (t.drop a') 0 = (k, true)) (hne : (nb t a').toNat ≠ 110 ∧ (nb t a').toNat ≠ 116 ∧ (nb t a').toNat ≠ 102 ∧ (nb t a').toNat ≠ 34 ∧ (nb t a').toNat ≠ 91 ∧ (nb t a').toNat ≠ 123) (hs : Skips t a a') (hl : t.length ≤ 100000) : ValC t d a (.mk 3 false ((t.drop a').take k) [] []) (a' + k) := by
  intro pp r w hr hr1 hp
  have hpl := hp.lt
  have hsl := hs.2.1
  have hbA : Below w.heap.size w (w.alloc val0) := (Below.refl _ w).alloc (Nat.le_refl _) _
  have HK := Lib.hid (skip_any pp t a a' r (w.alloc val0) (hp.below hbA) hs hl)
  have HB0 : Hid (Blk (w.alloc val0) w.heap.size 27 #[.int .i64 0, .bool false, .string ⟨#[]⟩, .slice none 0 0, .slice none 0 0]) := Lib.hid (heap_alloc_new w _)
  have HGA := Lib.hid (show G pp w (w.alloc val0) from G.of_below hbA)
  have HQ := Lib.hid hne
  have HK' := Lib.hid (show nend (t.drop a') 0 = (k, true) ∧ t.length ≤ 100000 from ⟨hk, hl⟩)
  clear hne hk hl
  clear hp hs hbA
  go_enter Tryz.func56, Tryz.ntmps56
  go_wp2_with fail
  refine HK.out.mono ?_
  rintro e w1 ⟨rfl, hp1, hg1⟩
  have HN := Lib.hid (next_any pp t a' r w1 hp1 hsl)
  have b110 : (((nb t a').toNat : Int) == 110) = false := by rw [beq_eq_false_iff_ne]; have := HQ.out; omega
  have b116 : (((nb t a').toNat : Int) == 116) = false := by rw [beq_eq_false_iff_ne]; have := HQ.out; omega
  have b102 : (((nb t a').toNat : Int) == 102) = false := by rw [beq_eq_false_iff_ne]; have := HQ.out; omega
  have b34 : (((nb t a').toNat : Int) == 34) = false := by rw [beq_eq_false_iff_ne]; have := HQ.out; omega
  have b91 : (((nb t a').toNat : Int) == 91) = false := by rw [beq_eq_false_iff_ne]; have := HQ.out; omega
  have b123 : (((nb t a').toNat : Int) == 123) = false := by rw [beq_eq_false_iff_ne]; have := HQ.out; omega
  generalize (nb t a').toNat = c at *
  have HG1 := Lib.hid (HGA.out.trans hg1)
  have HB1 := Lib.hid (HB0.out.grown hg1 (fun e => by injection e; omega))
  clear hp1 hg1 HK HB0 HGA
  go_wp2_with fail
  refine HN.out.mono ?_
  rintro e w2 ⟨rfl, hp2, hg2⟩
  have hw2 : w.heap.size < w2.heap.size := Nat.lt_of_lt_of_le HB1.out.lt hg2.size
  have HC := Lib.hid (number_any pp t a' r k w2 hp2 hsl HK'.out.1 HK'.out.2)
  have HG2 := Lib.hid (HG1.out.trans hg2)
  have HB2 := Lib.hid (HB1.out.grown hg2 (fun e => by injection e; omega))
  clear hp2 hg2 HN HB1 HG1
  go_wp2_with fail
  refine HC.out.mono ?_
  rintro e w3 ⟨rfl, hp3, hg3⟩
  have hb3 := HB2.out.grown hg3 (fun e => by injection e; omega)
  have HG3 := Lib.hid (HG2.out.trans hg3)
  have HP3 := Lib.hid hp3
  have k0 := hb3.cell 0
  have k1 := hb3.cell 1
  have k2 := hb3.cell 2
  have k3 := hb3.cell 3
  have k4 := hb3.cell 4
  have g0 := Lib.frozen_of_heap hb3 0
  have g1 := Lib.frozen_of_heap hb3 1
  have g2 := Lib.frozen_of_heap hb3 2
  have g3 := Lib.frozen_of_heap hb3 3
  have g4 := Lib.frozen_of_heap hb3 4
  clear hp3 hg3 hb3 HC HB2 HG2
  go_wp2
  (try simp only [Exit.inBlock, Exit.then])
  refine bodyPost_ret (v := .agg #[.int .i64 3, .bool false, .string (mk ((t.drop a').take k)), .slice none 0 0, .slice none 0 0]) ?_ rfl ?_
  · rw [results_one rfl]
    go_simp
  refine ⟨_, rfl, HoldsP.leaf _ _ 3 false _, ?_, ?_⟩
  · exact ((((HP3.out.put (by omega) _ _).put (by omega) _ _).put (by omega) _ _).put (by omega) _ _).put (by omega) _ _
  · exact ((((HG3.out.put (Nat.le_refl _) _ _).put (Nat.le_refl _) _ _).put (Nat.le_refl _) _ _).put (Nat.le_refl _) _ _).put (Nat.le_refl _) _ _
set_option maxHeartbeats 4000000 in
theorem value_list (t : List UInt8) (d a a' : Nat) (b n : Nat) (p q s : Nat → Nat) (vs : List V) (h91 : (nb t a').toNat = 91) (hn : vs.length = n) (hn1 : n ≤ 100000) (he : Elems t 93 a' n p q s b) (hval : ∀ k v, vs[k]? = some v → ValC t d (p k) v (q k)) (hs : Skips t a a') (hl : t.length ≤ 100000) : ValC t (d + 1) a (.mk 5 false [] vs []) (b) := by
  intro pp r w hr hr1 hp
  obtain ⟨r, rfl⟩ : ∃ r', r = r' + 1 := ⟨r - 1, by omega⟩
  have hr : d ≤ r := by omega
  have hr1 : r ≤ 99999 := by omega
  have hpl := hp.lt
  have hsl := hs.2.1
  have hbA : Below w.heap.size w (w.alloc val0) := (Below.refl _ w).alloc (Nat.le_refl _) _
  have HK := Lib.hid (skip_any pp t a a' (r + 1) (w.alloc val0) (hp.below hbA) hs hl)
  have HB0 : Hid (Blk (w.alloc val0) w.heap.size 27 #[.int .i64 0, .bool false, .string ⟨#[]⟩, .slice none 0 0, .slice none 0 0]) := Lib.hid (heap_alloc_new w _)
  have HGA := Lib.hid (show G pp w (w.alloc val0) from G.of_below hbA)
  have HQ := Lib.hid (show (nb t a').toNat = 91 ∧ vs.length = n ∧ n ≤ 100000 ∧ Elems t 93 a' n p q s b ∧ (∀ k v, vs[k]? = some v → ValC t d (p k) v (q k)) ∧ t.length ≤ 100000 ∧ d ≤ r ∧ r ≤ 99999 from ⟨h91, hn, hn1, he, hval, hl, hr, hr1⟩)
  clear h91 hn hn1 he hval hl hr hr1
  clear hp hs hbA
  go_enter Tryz.func56, Tryz.ntmps56
  go_wp2_with fail
  refine HK.out.mono ?_
  rintro e w1 ⟨rfl, hp1, hg1⟩
  have HN := Lib.hid (next_any pp t a' (r + 1) w1 hp1 hsl)
  rw [HQ.out.1] at HN
  have HG1 := Lib.hid (HGA.out.trans hg1)
  have HB1 := Lib.hid (HB0.out.grown hg1 (fun e => by injection e; omega))
  clear hp1 hg1 HK HB0 HGA
  go_wp2_with fail
  refine HN.out.mono ?_
  rintro e w2 ⟨rfl, hp2, hg2⟩
  have hw2 : w.heap.size < w2.heap.size := Nat.lt_of_lt_of_le HB1.out.lt hg2.size
  have HC := Lib.hid (list_any t pp d a' r n b p q s vs w2 hp2 HQ.out.2.2.2.2.2.2.1 HQ.out.2.2.2.2.2.2.2 HQ.out.2.1 HQ.out.2.2.1 HQ.out.2.2.2.2.2.1 HQ.out.2.2.2.1 HQ.out.2.2.2.2.1)
  have HG2 := Lib.hid (HG1.out.trans hg2)
  have HB2 := Lib.hid (HB1.out.grown hg2 (fun e => by injection e; omega))
  clear hp2 hg2 HN HB1 HG1
  go_wp2_with fail
  refine HC.out.mono ?_
  rintro e w3 ⟨A, c, rfl, hA, hR, hp3, hg3⟩
  have hb3 := HB2.out.grown hg3 (fun e => by injection e; omega)
  have HG3 := Lib.hid (HG2.out.trans hg3)
  have HP3 := Lib.hid hp3
  have k0 := hb3.cell 0
  have k1 := hb3.cell 1
  have k2 := hb3.cell 2
  have k3 := hb3.cell 3
  have k4 := hb3.cell 4
  have g0 := Lib.frozen_of_heap hb3 0
  have g1 := Lib.frozen_of_heap hb3 1
  have g2 := Lib.frozen_of_heap hb3 2
  have g3 := Lib.frozen_of_heap hb3 3
  have g4 := Lib.frozen_of_heap hb3 4
  have HR := Lib.hid hR
  have HA := Lib.hid hA
  clear hR hA
  clear hp3 hg3 hb3 HC HB2 HG2
  go_wp2
  (try simp only [Exit.inBlock, Exit.then])
  refine bodyPost_ret (v := .agg #[.int .i64 5, .bool false, .string ⟨#[]⟩, .slice A (n : Nat) c, .slice none 0 0]) ?_ rfl ?_
  · rw [results_one rfl]
    go_simp
  have hput : ∀ i v, vs[i]? = some v → ∀ W, W = ((((w3.setCell ⟨w.heap.size, 0, none⟩ (.int .i64 5)).setCell ⟨w.heap.size, 1, none⟩ (.bool false)).setCell ⟨w.heap.size, 2, none⟩ (.string ⟨#[]⟩)).setCell ⟨w.heap.size, 3, none⟩ (.slice A (n : Nat) c)).setCell ⟨w.heap.size, 4, none⟩ (.slice none 0 0) → RdP (fun k => w.heap.size ≤ k) W ((A.getD default).add (i * 5)) v := by
    rintro i v hv W rfl
    exact (((((( HR.out i v hv).put (by omega) _ _).put (by omega) _ _).put (by omega) _ _).put (by omega) _ _).put (by omega) _ _).mono (fun q hq _ => by omega)
  refine ⟨_, rfl, ⟨A, c, none, 0, by rw [← HQ.out.2.1]; rfl, fun h => HA.out (by rw [← HQ.out.2.1]; exact h), by simp [V.mem], fun i v hv => hput i v hv _ rfl, by simp [V.mem], by simp [V.mem]⟩, ?_, ?_⟩
  · exact ((((HP3.out.put (by omega) _ _).put (by omega) _ _).put (by omega) _ _).put (by omega) _ _).put (by omega) _ _
  · exact ((((HG3.out.put (Nat.le_refl _) _ _).put (Nat.le_refl _) _ _).put (Nat.le_refl _) _ _).put (Nat.le_refl _) _ _).put (Nat.le_refl _) _ _
set_option maxHeartbeats 4000000 in
theorem value_mem (t : List UInt8) (d a a' : Nat) (b n : Nat) (p q s p1 p2 : Nat → Nat) (ms : List M) (h123 : (nb t a').toNat = 123) (hn : ms.length = n) (hn1 : n ≤ 100000) (he : Elems t 125 a' n p q s b) (hval : ∀ k m, ms[k]? = some m → MemC t d (p k) m (q k) (p1 k) (p2 k)) (hun : namesNew [] ms = true) (hnl : ∀ m ∈ ms, m.name.length ≤ 1000000) (hs : Skips t a a') (hl : t.length ≤ 100000) : ValC t (d + 1) a (.mk 6 false [] [] ms) (b) := by
  intro pp r w hr hr1 hp
  obtain ⟨r, rfl⟩ : ∃ r', r = r' + 1 := ⟨r - 1, by omega⟩
  have hr : d ≤ r := by omega
  have hr1 : r ≤ 99999 := by omega
  have hpl := hp.lt
  have hsl := hs.2.1
  have hbA : Below w.heap.size w (w.alloc val0) := (Below.refl _ w).alloc (Nat.le_refl _) _
  have HK := Lib.hid (skip_any pp t a a' (r + 1) (w.alloc val0) (hp.below hbA) hs hl)
  have HB0 : Hid (Blk (w.alloc val0) w.heap.size 27 #[.int .i64 0, .bool false, .string ⟨#[]⟩, .slice none 0 0, .slice none 0 0]) := Lib.hid (heap_alloc_new w _)
  have HGA := Lib.hid (show G pp w (w.alloc val0) from G.of_below hbA)
  have HQ := Lib.hid (show (nb t a').toNat = 123 ∧ ms.length = n ∧ n ≤ 100000 ∧ Elems t 125 a' n p q s b ∧ (∀ k m, ms[k]? = some m → MemC t d (p k) m (q k) (p1 k) (p2 k)) ∧ t.length ≤ 100000 ∧ d ≤ r ∧ r ≤ 99999 ∧ namesNew [] ms = true ∧ (∀ m ∈ ms, m.name.length ≤ 1000000) from ⟨h123, hn, hn1, he, hval, hl, hr, hr1, hun, hnl⟩)
  clear h123 hn hn1 he hval hl hr hr1 hun hnl
  clear hp hs hbA
  go_enter Tryz.func56, Tryz.ntmps56
  go_wp2_with fail
  refine HK.out.mono ?_
  rintro e w1 ⟨rfl, hp1, hg1⟩
  have HN := Lib.hid (next_any pp t a' (r + 1) w1 hp1 hsl)
  rw [HQ.out.1] at HN
  have HG1 := Lib.hid (HGA.out.trans hg1)
  have HB1 := Lib.hid (HB0.out.grown hg1 (fun e => by injection e; omega))
  clear hp1 hg1 HK HB0 HGA
  go_wp2_with fail
  refine HN.out.mono ?_
  rintro e w2 ⟨rfl, hp2, hg2⟩
  have hw2 : w.heap.size < w2.heap.size := Nat.lt_of_lt_of_le HB1.out.lt hg2.size
  have HC := Lib.hid (members_any t pp d a' r n b p q s p1 p2 ms w2 hp2 HQ.out.2.2.2.2.2.2.1 HQ.out.2.2.2.2.2.2.2.1 HQ.out.2.1 HQ.out.2.2.1 HQ.out.2.2.2.2.2.1 HQ.out.2.2.2.1 HQ.out.2.2.2.2.1 HQ.out.2.2.2.2.2.2.2.2.1 HQ.out.2.2.2.2.2.2.2.2.2)
  have HG2 := Lib.hid (HG1.out.trans hg2)
  have HB2 := Lib.hid (HB1.out.grown hg2 (fun e => by injection e; omega))
  clear hp2 hg2 HN HB1 HG1
  go_wp2_with fail
  refine HC.out.mono ?_
  rintro e w3 ⟨A, c, rfl, hA, hS, hR, hp3, hg3⟩
  have hb3 := HB2.out.grown hg3 (fun e => by injection e; omega)
  have HG3 := Lib.hid (HG2.out.trans hg3)
  have HP3 := Lib.hid hp3
  have k0 := hb3.cell 0
  have k1 := hb3.cell 1
  have k2 := hb3.cell 2
  have k3 := hb3.cell 3
  have k4 := hb3.cell 4
  have g0 := Lib.frozen_of_heap hb3 0
  have g1 := Lib.frozen_of_heap hb3 1
  have g2 := Lib.frozen_of_heap hb3 2
  have g3 := Lib.frozen_of_heap hb3 3
  have g4 := Lib.frozen_of_heap hb3 4
  have HR := Lib.hid hR
  have HA := Lib.hid hA
  have HSS := Lib.hid hS
  clear hR hA hS
  clear hp3 hg3 hb3 HC HB2 HG2
  go_wp2
  (try simp only [Exit.inBlock, Exit.then])
  refine bodyPost_ret (v := .agg #[.int .i64 6, .bool false, .string ⟨#[]⟩, .slice none 0 0, .slice A (n : Nat) c]) ?_ rfl ?_
  · rw [results_one rfl]
    go_simp
  have hput : ∀ i m, ms[i]? = some m → ∀ W, W = ((((w3.setCell ⟨w.heap.size, 0, none⟩ (.int .i64 6)).setCell ⟨w.heap.size, 1, none⟩ (.bool false)).setCell ⟨w.heap.size, 2, none⟩ (.string ⟨#[]⟩)).setCell ⟨w.heap.size, 3, none⟩ (.slice none 0 0)).setCell ⟨w.heap.size, 4, none⟩ (.slice A (n : Nat) c) → RdP (fun k => w.heap.size ≤ k) W ((A.getD default).add (i * 6 + 1)) m.val ∧ W.cell? ((A.getD default).add (i * 6)) = some (.string (mk m.name)) := by
    rintro i m hv W rfl
    have h1 := HR.out i m hv
    have h2 := h1.pd
    rw [block_add] at h2
    have h3 : ((A.getD default).add (i * 6)).block ≠ w.heap.size := by rw [block_add]; omega
    exact ⟨(((((h1.put (by omega) _ _).put (by omega) _ _).put (by omega) _ _).put (by omega) _ _).put (by omega) _ _).mono (fun q hq _ => by omega), cell_put (cell_put (cell_put (cell_put (cell_put (HSS.out i m hv) h3 _ _) h3 _ _) h3 _ _) h3 _ _) h3 _ _⟩
  refine ⟨_, rfl, ⟨none, 0, A, c, by rw [← HQ.out.2.1]; rfl, by simp [V.list], fun h => HA.out (by rw [← HQ.out.2.1]; exact h), by simp [V.list], fun i m hv => (hput i m hv _ rfl).2, fun i m hv => (hput i m hv _ rfl).1⟩, ?_, ?_⟩
  · exact ((((HP3.out.put (by omega) _ _).put (by omega) _ _).put (by omega) _ _).put (by omega) _ _).put (by omega) _ _
  · exact ((((HG3.out.put (Nat.le_refl _) _ _).put (Nat.le_refl _) _ _).put (Nat.le_refl _) _ _).put (Nat.le_refl _) _ _).put (Nat.le_refl _) _ _
end Go.Proofs.YtkenananejgcpaaGreatDoor.Jsn
