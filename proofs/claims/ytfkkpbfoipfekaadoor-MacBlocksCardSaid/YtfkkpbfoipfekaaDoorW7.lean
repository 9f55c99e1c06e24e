/-
  What New, (*Hash).Sum and Sum do: a new hash of no bytes; the hash of the bytes so far, the running hash left as it was; the hash of the parts one behind the other.
-/
import Derived.Test.YtfkkpbfoipfekaaDoorW6
namespace Go.Proofs.YtfkkpbfoipfekaaDoor
open Go.RowKit
/-- The eight numbers with which a hash begins lie in block 0. -/
def Iat (w : World) : Prop := w.cell? ⟨0, 0, none⟩ = some (.int .u32 1779033703) ∧ w.cell? ⟨0, 1, none⟩ = some (.int .u32 3144134277) ∧ w.cell? ⟨0, 2, none⟩ = some (.int .u32 1013904242) ∧ w.cell? ⟨0, 3, none⟩ = some (.int .u32 2773480762) ∧
  w.cell? ⟨0, 4, none⟩ = some (.int .u32 1359893119) ∧ w.cell? ⟨0, 5, none⟩ = some (.int .u32 2600822924) ∧ w.cell? ⟨0, 6, none⟩ = some (.int .u32 528734635) ∧ w.cell? ⟨0, 7, none⟩ = some (.int .u32 1541459225)
theorem Iat.below {w w' : World} {B : Nat} (h : Iat w) (hb : Below B w w') (h2 : 1 ≤ B) : Iat w' := by
  have e : ∀ i, w'.cell? ⟨0, i, none⟩ = w.cell? ⟨0, i, none⟩ := fun i => hb.cell (by show 0 < B; omega)
  unfold Iat
  rw [e, e, e, e, e, e, e, e]
  exact h
def zero64 : List Nat := List.replicate 64 0
theorem build46 (w : World) : (Instr.build 55 #[(0, .agg #[.int .u32 1779033703, .int .u32 3144134277, .int .u32 1013904242, .int .u32 2773480762, .int .u32 1359893119, .int .u32 2600822924, .int .u32 528734635, .int .u32 1541459225])]).run Tryd.prog w = .ok (.agg (hcells Sha.init zero64 0 0)) w := by kernel_rfl
theorem new_hst (w : World) : Hst (w.alloc (.cells (hcells Sha.init zero64 0 0) 55)) w.heap.size [] 0 :=
  ⟨zero64, Sha.tail_nil _ (by simp [zero64]) (fun x hx => by have := List.eq_of_mem_replicate hx; omega), Blk.new w 55 _⟩
theorem wpList_buildRun {P : Program} {ops : Array Oper} {rest : List Oper} {o : Oper} {a : Act} {w : World} {Q : Exit → Act → World → Prop} (hgd : o.guard = none) (t : TypeId) (i : Nat) (x : Operand) (ho : o.op = .build t #[(i, x)]) (u : Value) (hx : a.eval x = u) (v : Value)
    (hrun : (Instr.build t #[(i, u)]).run P w = .ok v w) (h : wpList P ops Q rest (a.put o.dst v) w) : wpList P ops Q (o :: rest) a w :=
  wpList_plain hgd fun _ hK => by
    unfold Oper.wp execOp
    simp only [ho, List.map_toArray, List.map_cons, List.map_nil, hx, Sem.run_bind, hrun, Result.andThen_ok, Sem.run_pure]
    exact hK _ _ h
theorem wpList_allocRun {P : Program} {ops : Array Oper} {rest : List Oper} {o : Oper} {a : Act} {w w' : World} {Q : Exit → Act → World → Prop} (hgd : o.guard = none) (t : TypeId) (ho : o.op = .alloc t) (v : Value)
    (hrun : (Instr.alloc t true (.tuple #[])).run P w = .ok v w') (h : wpList P ops Q rest (a.put o.dst v) w') : wpList P ops Q (o :: rest) a w :=
  wpList_plain hgd fun _ hK => by
    unfold Oper.wp execOp
    simp only [ho, Sem.run_bind, hrun, Result.andThen_ok, Sem.run_pure]
    exact hK _ _ h
def zeroSt : Sha.St := ⟨0, 0, 0, 0, 0, 0, 0, 0⟩
theorem alloc46 (w : World) : (Instr.alloc 55 true (.tuple #[])).run Tryd.prog w = .ok (.pointer (some ⟨w.heap.size, 0, none⟩)) (w.alloc (.cells (hcells zeroSt zero64 0 0) 55)) := by kernel_rfl
theorem own_rd {w : World} {base n : Nat} {v : Value} {l : List Nat} (h : w.ownsRow base 5 1 v n (vals .u8 l)) (hn : n = l.length) (hp : 0 < n) :
    ∃ p cap, v = .slice (some ⟨p, 0, none⟩) l.length cap ∧ l.length ≤ cap ∧ base ≤ p ∧ p < w.heap.size ∧ ∀ g, g < p → Rd w g (some ⟨p, 0, none⟩) l := by
  rcases h.2 with ⟨_, h0⟩ | ⟨p, cap, cur, hv, hb, hg, hc, _, hs, ht⟩
  · omega
  · subst hn
    have hlt : p < w.heap.size := Blk.lt (t := 5) (cs := cur) hg
    refine ⟨p, cap, hv, hc, hb, hlt, fun g hgp _ => ⟨_, rfl, by show p ≠ g; omega, hlt, fun j u hu => ?_⟩⟩
    rw [Addr.add_mid, Nat.zero_add, cell_of_row w p j cur 5 (0, 0) hg]
    rw [← ht, List.getElem?_take] at hu
    split at hu
    · simpa using hu
    · cases hu
theorem wpList_loadRun {P : Program} {ops : Array Oper} {rest : List Oper} {o : Oper} {a : Act} {w : World} {Q : Exit → Act → World → Prop} (hgd : o.guard = none) (ty : TypeId) (x : Operand) (ho : o.op = .load ty x) (p v : Value) (hx : a.eval x = p)
    (hrun : (Instr.loadAt ty p).run P w = .ok v w) (h : wpList P ops Q rest (a.put o.dst v) w) : wpList P ops Q (o :: rest) a w :=
  wpList_plain hgd fun _ hK => by
    unfold Oper.wp execOp
    simp only [ho, hx, Sem.run_bind, hrun, Result.andThen_ok, Sem.run_pure]
    exact hK _ _ h
set_option maxRecDepth 100000
set_option maxHeartbeats 400000 in
theorem new_aux (w : World) (n0 n1 n2 n3 n4 n5 n6 n7 : Int) (i0 : w.cell? ⟨0, 0, none⟩ = some (.int .u32 n0)) (i1 : w.cell? ⟨0, 1, none⟩ = some (.int .u32 n1)) (i2 : w.cell? ⟨0, 2, none⟩ = some (.int .u32 n2)) (i3 : w.cell? ⟨0, 3, none⟩ = some (.int .u32 n3)) (i4 : w.cell? ⟨0, 4, none⟩ = some (.int .u32 n4)) (i5 : w.cell? ⟨0, 5, none⟩ = some (.int .u32 n5)) (i6 : w.cell? ⟨0, 6, none⟩ = some (.int .u32 n6)) (i7 : w.cell? ⟨0, 7, none⟩ = some (.int .u32 n7)) (H : Array Value) (hH : (Instr.build 55 #[(0, .agg #[.int .u32 n0, .int .u32 n1, .int .u32 n2, .int .u32 n3, .int .u32 n4, .int .u32 n5, .int .u32 n6, .int .u32 n7])]).run Tryd.prog w = .ok (.agg H) w) :
    Calls Tryd.prog 19 #[] w fun e w' => e = .returned (.pointer (some ⟨w.heap.size, 0, none⟩)) ∧ w.alloc (.cells H 55) = w' := by
  have HH := Lib.hid hH
  clear hH
  go_enter Tryd.func19, Tryd.ntmps19
  go_wp2_with (refine wpList_buildRun rfl 55 0 (.tmp 1) rfl (.agg #[.int .u32 n0, .int .u32 n1, .int .u32 n2, .int .u32 n3, .int .u32 n4, .int .u32 n5, .int .u32 n6, .int .u32 n7]) rfl (.agg H) HH.out ?_)
  go_ret
  exact ⟨rfl, rfl⟩
theorem new_any (w : World) (hI : Iat w) : Calls Tryd.prog 19 #[] w fun e w' => e = .returned (.pointer (some ⟨w.heap.size, 0, none⟩)) ∧ w.alloc (.cells (hcells Sha.init zero64 0 0) 55) = w' := by
  obtain ⟨i0, i1, i2, i3, i4, i5, i6, i7⟩ := hI
  exact new_aux w _ _ _ _ _ _ _ _ i0 i1 i2 i3 i4 i5 i6 i7 _ (build46 w)
theorem hcells_one (s : Sha.St) (blk : List Nat) (f n : Nat) : ∀ u ∈ hcells s blk f n, u.oneCell' = true := by
  intro u hu
  simp only [hcells, List.mem_toArray, List.mem_append, List.mem_cons, List.not_mem_nil, or_false] at hu
  rcases hu with h | h | rfl | rfl
  · exact vals_one _ _ u h
  · exact vals_one _ _ u h
  · rfl
  · rfl
theorem Tryd.info46 : (Tryd.prog.info? 55).map (·.size) = some 74 := by kernel_rfl
set_option maxHeartbeats 400000 in
theorem hsum_any (w : World) (g : Nat) (m : List Nat) (hH : Hst w g m m.length) (hK : Kat w) (hg : 2 ≤ g) (hN : m.length < 576460752303423488) :
    Calls Tryd.prog 23 #[.pointer (some ⟨g, 0, none⟩)] w fun e w' => ∃ v, e = .returned v ∧ w'.ownsRow w.heap.size 5 1 v 32 (vals .u8 (Sha.sum m)) ∧ Below w.heap.size w w' := by
  obtain ⟨blk, hT, hB⟩ := hH
  have c73 := hcell73 hT.1 hB
  have HT := Lib.hid hT
  have HB := Lib.hid hB
  have HK := Lib.hid hK
  have HL := Lib.hid hB.lt
  have ha := alloc46 w
  clear hT hB hK
  generalize hZ : hcells zeroSt zero64 0 0 = Z at ha
  have hZs : Z.size = 74 := by rw [← hZ]; exact hcells_size (by simp [zero64])
  have HA := Lib.hid ha
  have HZ := Lib.hid hZs
  clear ha hZ hZs
  have hc : ∀ u ∈ (hcells (Sha.proc m) blk (m.length % 64) m.length), u.oneCell' = true := hcells_one _ _ _ _
  have HC := Lib.hid hc
  have hsz : (hcells (Sha.proc m) blk (m.length % 64) m.length).size = 74 := hcells_size HT.out.1
  have HS := Lib.hid hsz
  clear hc hsz
  go_enter Tryd.func23, Tryd.ntmps23
  go_upto_region 2 with (first
    | (refine wpList_load_row rfl 55 (.tmp 5) rfl g rfl 55 _ _ _ HB.out Tryd.underlying55 rfl ?l1 ?_)
    | (refine wpList_allocRun rfl 55 rfl _ HA.out ?_)
    | (refine wpList_store_row rfl 55 (.tmp 3) (.tmp 6) rfl w.heap.size _ rfl rfl 55 _ (Blk.new w 55 Z) ?s1 ?s2 ?s3 ?_))
  case l1 => rw [HS.out]; exact Tryd.info46
  case s1 => rw [HS.out]; exact Tryd.info46
  case s2 => rw [HS.out, HZ.out]
  case s3 => exact Array.all_eq_true_iff_forall_mem.2 HC.out
  have k1 : Blk ((w.alloc (.cells Z 55)).setRow w.heap.size (hcells (Sha.proc m) blk (m.length % 64) m.length)) w.heap.size 55 _ := (Blk.new w 55 Z).row _
  have b1 : Below w.heap.size w ((w.alloc (.cells Z 55)).setRow w.heap.size (hcells (Sha.proc m) blk (m.length % 64) m.length)) := below_setRow ((Below.refl _ _).alloc (Nat.le_refl _) _) (Nat.le_refl _) _
  generalize (w.alloc (.cells Z 55)).setRow w.heap.size (hcells (Sha.proc m) blk (m.length % 64) m.length) = w1 at k1 b1
  have c73b : w1.cell? ⟨g, 73, none⟩ = some (.int .u64 (m.length : Int)) := (b1.cell HL.out).trans c73
  have HK1 := Lib.hid k1
  have HB1 := Lib.hid b1
  clear k1 b1 c73
  go_wp2_with fail
  refine (padding_any m.length (by omega) _).mono ?_
  rintro e w2 ⟨v, rfl, hown, hb2⟩
  have hpl : 0 < (Sha.pad m.length).length := by rw [Sha.pad_length]; omega
  have hex := own_rd hown rfl hpl
  obtain ⟨p, cap, hv, hcap, hp1, hp2, hrd⟩ := hex
  rw [hv]
  have HR := Lib.hid (hrd w.heap.size (by have := HB1.out.size; have := HK1.out.lt; omega))
  have HH2 : Hid (Hst w2 w.heap.size m m.length) := Lib.hid ⟨blk, HT.out, HK1.out.below hb2 HK1.out.lt⟩
  have HB2 : Hid (Below w.heap.size w w2) := Lib.hid (HB1.out.trans (hb2.mono HB1.out.size))
  have hgs : 2 ≤ w.heap.size := by have := HL.out; omega
  have HK2 := Lib.hid (HK.out.below HB2.out hgs)
  clear hown hb2 hrd hv
  go_wp2_with fail
  refine (write_any w2 w.heap.size m (Sha.pad m.length) (some ⟨p, 0, none⟩) cap (Sha.pad_Bs _) HH2.out HR.out hcap HK2.out hgs (by rw [Sha.pad_length]; have := zeros_le m.length; omega)).mono ?_
  rintro e w3 ⟨rfl, hH3, hg3⟩
  obtain ⟨blk3, hT3, hB3⟩ := hH3
  have HB3 : Hid (Below w.heap.size w w3) := Lib.hid (HB2.out.grown hg3 HB2.out.size (fun k hk => by injection hk with hk; omega))
  have HBk := Lib.hid hB3
  clear hg3 hT3 hB3
  go_wp2_with (refine wpList_loadRun rfl 52 (.tmp 13) rfl (.pointer (some ⟨w.heap.size, 0, none⟩)) _ rfl (load42 HBk.out) ?_)
  refine (stateBytes_any (Sha.proc (m ++ Sha.pad m.length)) (Sha.proc_ok _) _).mono ?_
  rintro e w4 ⟨v4, rfl, hown4, hb4⟩
  have HO := Lib.hid (own_lower hown4 HB3.out.size)
  have HF := Lib.hid (HB3.out.trans (hb4.mono HB3.out.size))
  clear hown4 hb4
  go_wp2
  go_ret
  exact ⟨v4, rfl, HO.out, HF.out⟩
end Go.Proofs.YtfkkpbfoipfekaaDoor
