/-
  What (*Hash).Write does: the hash that held a message holds the message with the bytes that were written behind it; no other block that was there has changed.
-/
import Derived.Test.YtfkkpbfoipfekaaDoorW5
import Derived.Test.YtfkkpbfoipfekaaDoorMath2
import Derived.Deep.RegionHeld3
namespace Go.Proofs.YtfkkpbfoipfekaaDoor
open Go.RowKit
/-- The cells of a Hash. -/
def hcells (s : Sha.St) (blk : List Nat) (f n : Nat) : Array Value := (vals .u32 s.toList ++ (vals .u8 blk ++ [Value.int .i64 (f : Int), Value.int .u64 (n : Int)])).toArray
theorem hcells_size {s : Sha.St} {blk : List Nat} {f n : Nat} (h : blk.length = 64) : (hcells s blk f n).size = 74 := by
  simp [hcells, vals_length, h]; rfl
/-- Block g is a Hash that has taken the message m into its state and its block, and whose size is n. -/
def Hst (w : World) (g : Nat) (m : List Nat) (n : Nat) : Prop := ∃ blk, Sha.Tail m blk ∧ Blk w g 55 (hcells (Sha.proc m) blk (m.length % 64) n)
/-- A slice at A reads as these bytes, and does not lie in block g. -/
def Rd (w : World) (g : Nat) (A : Option Addr) (l : List Nat) : Prop := 0 < l.length → ∃ ad, A = some ad ∧ ad.block ≠ g ∧ ad.block < w.heap.size ∧ ∀ j u, (vals .u8 l)[j]? = some u → w.cell? (ad.add j) = some u
theorem block_add (a : Addr) (n : Nat) : (a.add n).block = a.block := by unfold Addr.add; split <;> rfl
theorem add_add (a : Addr) (i j : Nat) : (a.add i).add j = a.add (i + j) := by
  unfold Addr.add
  by_cases hi : i = 0 <;> by_cases hj : j = 0 <;> simp [hi, hj, Nat.add_assoc]
theorem Rd.grown {w w' : World} {g : Nat} {A : Option Addr} {l : List Nat} (h : Rd w g A l) (hg : w.grownBy w' (some g)) : Rd w' g A l := fun hl => by
  obtain ⟨ad, e, h1, h2, h3⟩ := h hl
  refine ⟨ad, e, h1, Nat.lt_of_lt_of_le h2 hg.size, fun j u hu => ?_⟩
  rw [← h3 j u hu]
  exact World.cell?_of_block (hg.block _ (by rw [block_add]; exact h2) (by rw [block_add]; intro e; injection e with e; exact h1 e))
theorem Rd.cut {w : World} {g : Nat} {A : Option Addr} {l : List Nat} (h : Rd w g A l) {k cap : Nat} (hc : l.length ≤ cap) : Rd w g (if cap = k then A else A.map (·.add k)) (l.drop k) := fun hl => by
  simp only [List.length_drop] at hl
  obtain ⟨ad, e, h1, h2, h3⟩ := h (by omega)
  subst e
  rw [if_neg (by omega)]
  refine ⟨ad.add k, rfl, by rw [block_add]; exact h1, by rw [block_add]; exact h2, fun j u hu => ?_⟩
  rw [add_add]
  refine h3 _ u ?_
  rw [← hu, ← vals_drop, List.getElem?_drop]
theorem hcell72 {w : World} {g : Nat} {s : Sha.St} {blk : List Nat} {f n : Nat} (hl : blk.length = 64) (h : Blk w g 55 (hcells s blk f n)) : w.cell? ⟨g, 72, none⟩ = some (.int .i64 (f : Int)) := by
  rw [h.cell]
  simp only [hcells, List.getElem?_toArray]
  rw [List.getElem?_append_right (by simp [vals_length, Sha.St.toList]), List.getElem?_append_right (by simp [vals_length, hl, Sha.St.toList])]
  simp [vals_length, hl, Sha.St.toList]
theorem hcell73 {w : World} {g : Nat} {s : Sha.St} {blk : List Nat} {f n : Nat} (hl : blk.length = 64) (h : Blk w g 55 (hcells s blk f n)) : w.cell? ⟨g, 73, none⟩ = some (.int .u64 (n : Int)) := by
  rw [h.cell]
  simp only [hcells, List.getElem?_toArray]
  rw [List.getElem?_append_right (by simp [vals_length, Sha.St.toList]), List.getElem?_append_right (by simp [vals_length, hl, Sha.St.toList])]
  simp [vals_length, hl, Sha.St.toList]
theorem hset72 {s : Sha.St} {blk : List Nat} {f n : Nat} (hl : blk.length = 64) (f' : Nat) : (hcells s blk f n).setIfInBounds 72 (.int .i64 (f' : Int)) = hcells s blk f' n := by
  simp only [hcells, List.setIfInBounds_toArray]
  rw [List.set_append_right _ _ (by simp [vals_length, Sha.St.toList]), List.set_append_right _ _ (by simp [vals_length, hl, Sha.St.toList])]
  simp [vals_length, hl, Sha.St.toList]
theorem hset73 {s : Sha.St} {blk : List Nat} {f n : Nat} (hl : blk.length = 64) (n' : Nat) : (hcells s blk f n).setIfInBounds 73 (.int .u64 (n' : Int)) = hcells s blk f n' := by
  simp only [hcells, List.setIfInBounds_toArray]
  rw [List.set_append_right _ _ (by simp [vals_length, Sha.St.toList]), List.set_append_right _ _ (by simp [vals_length, hl, Sha.St.toList])]
  simp [vals_length, hl, Sha.St.toList]
/-- Bytes are copied into the block. -/
theorem hsplice {s : Sha.St} {blk x : List Nat} {f n : Nat} (hl : blk.length = 64) (hx : f + x.length ≤ 64) :
    ((hcells s blk f n).toList.take (8 + f) ++ vals .u8 x ++ (hcells s blk f n).toList.drop (8 + f + (vals .u8 x).length)).toArray = hcells s (Sha.splice blk f x) f n := by
  have h8 : (vals .u32 s.toList).length = 8 := by rw [vals_length]; rfl
  have h64 : (vals .u8 blk).length = 64 := by rw [vals_length, hl]
  simp only [hcells, vals_length]
  congr 1
  rw [show 8 + f = (vals .u32 s.toList).length + f by rw [h8], List.take_length_add_append, Nat.add_assoc, List.drop_length_add_append,
    List.take_append_of_le_length (by omega), List.drop_append_of_le_length (by omega)]
  simp [Sha.splice, vals_append, vals_take, vals_drop]
/-- The state is replaced. -/
theorem hstate {s s' : Sha.St} {blk : List Nat} {f n : Nat} : (vals .u32 s'.toList ++ (hcells s blk f n).toList.drop 8).toArray = hcells s' blk f n := by
  have h8 : (vals .u32 s.toList).length = 8 := by rw [vals_length]; rfl
  simp only [hcells]
  rw [List.drop_append_of_le_length (by omega), List.drop_eq_nil_of_le (by omega), List.nil_append]
theorem Kat.grown {w w' : World} {g : Nat} (h : Kat w) (hg : w.grownBy w' (some g)) (h2 : 2 ≤ g) (hlt : g < w.heap.size) : Kat w' := fun i hi => by
  rw [← h i hi]
  exact World.cell?_of_block (hg.block 1 (by omega) (by intro e; injection e with e; omega))
section
variable {a w : World} {g : Nat}
theorem gb_put (h : a.grownBy w (some g)) (i : Nat) (u : Value) : a.grownBy (w.setCell ⟨g, i, none⟩ u) (some g) :=
  ⟨h.os, h.tape, h.output, by simpa [World.setCell] using h.size, fun k hk hne => (Below.heap_setCell w _ u k (fun e => hne (by rw [e]))).trans (h.block k hk hne)⟩
theorem gb_row (h : a.grownBy w (some g)) (cs : Array Value) : a.grownBy (w.setRow g cs) (some g) :=
  ⟨h.os, h.tape, h.output, by simpa using h.size, fun k hk hne => (heap_setRow_far w g k cs (fun e => hne (by rw [e]))).trans (h.block k hk hne)⟩
theorem gb_drew (h : a.grownBy w (some g)) : a.grownBy w.drew (some g) := ⟨h.os, h.tape, h.output, h.size, h.block⟩
theorem gb_drewN (h : a.grownBy w (some g)) (n : Nat) : a.grownBy (w.drewN n) (some g) := ⟨h.os, h.tape, h.output, h.size, h.block⟩
theorem gb_below {w' : World} (h : a.grownBy w (some g)) (hb : Below w.heap.size w w') : a.grownBy w' (some g) :=
  ⟨hb.os.trans h.os, hb.tape.trans h.tape, hb.output.trans h.output, Nat.le_trans h.size hb.size, fun k hk hne => (hb.block k (Nat.lt_of_lt_of_le hk h.size)).trans (h.block k hk hne)⟩
theorem gb_refl (w : World) (g : Nat) : w.grownBy w (some g) := ⟨rfl, rfl, rfl, Nat.le_refl _, fun _ _ _ => rfl⟩
end
def lenV : Value → Nat | .slice _ n _ => n | _ => 0
/-- What holds at the head of each round of Write. -/
def Wr (w : World) (g : Nat) (m bs : List Nat) (k : Nat) (A : Option Addr) (wr : World) : Prop :=
  Hst wr g (m ++ bs.take k) (m.length + bs.length) ∧ Rd wr g A (bs.drop k) ∧ w.grownBy wr (some g)
theorem slice_from (A : Option Addr) (n c q : Nat) (h : q ≤ n) (w : World) :
    (Instr.sliceAt 22 (.slice A n c) (some (.int .i64 (q : Int))) none none).run Tryd.prog w = .ok (.slice (if c = q then A else A.map (·.add q)) (n - q) (c - q)) w := by
  have hs : (sizeOf (Tryd.prog.elem 22)).run Tryd.prog w = .ok 1 w := by kernel_rfl
  have hu : Tryd.prog.underlying 22 = some (.slice (Tryd.prog.elem 22)) := by kernel_rfl
  rw [run_sliceAt_slice _ 22 _ _ _ _ hu, run_slice_l (P := Tryd.prog) w 22 A n c hu .i64 (q : Int) (by omega) (by omega), hs]
  simp only [Result.andThen, sliced, Int.toNat_natCast, Nat.mul_one]
theorem take_more (m bs : List Nat) (k q : Nat) : m ++ bs.take (k + q) = m ++ bs.take k ++ (bs.drop k).take q := by
  rw [List.take_add, List.append_assoc]
theorem Wr.more {w w2 : World} {g k q f : Nat} {m bs mm blk x : List Nat} {A2 : Option Addr} (hB : Blk w2 g 55 (hcells (Sha.proc mm) (Sha.splice blk f x) f (m.length + bs.length))) (hT : Sha.Tail mm blk)
    (hf : mm.length % 64 = f) (hm : m ++ bs.take k = mm) (hx : (bs.drop k).take q = x) (hl : x.length = q) (hb : Sha.Bs x) (hG : w.grownBy w2 (some g)) (hR : Rd w2 g A2 (bs.drop (k + q))) (hlt : f + q < 64) :
    Wr w g m bs (k + q) A2 (w2.setCell ⟨g, 72, none⟩ (.int .i64 ((f : Int) + (q : Int)))) := by
  subst hf
  obtain ⟨h1, h2, h3⟩ := Sha.tail_more hT hb (by omega)
  have e : m ++ bs.take (k + q) = mm ++ x := by rw [take_more, hm, hx]
  have hg := gb_put (gb_refl w2 g) 72 (.int .i64 ((mm.length % 64 : Nat) + (q : Int)))
  refine ⟨⟨_, by rw [e]; exact h1, ?_⟩, hR.grown hg, gb_put hG _ _⟩
  rw [e, h2, h3, show ((mm.length % 64 : Nat) : Int) + (q : Int) = ((mm.length % 64 + x.length : Nat) : Int) by omega]
  exact (hB.put 72 _).cast (hset72 h1.1 _)
theorem load42 {w : World} {g : Nat} {s : Sha.St} {blk : List Nat} {f n : Nat} (hB : Blk w g 55 (hcells s blk f n)) :
    (Instr.loadAt 52 (.pointer (some ⟨g, 0, none⟩))).run Tryd.prog w = .ok (.agg (Vs .u32 s.toList)) w := by
  refine run_loadAt_mid w g 0 52 (vals .u32 s.toList) _ (fun j v hv => ?_) Tryd.underlying52 rfl Tryd.info42
  rw [hB.cell]
  simp only [hcells, List.getElem?_toArray, Nat.zero_add]
  rw [List.getElem?_append_left (List.getElem?_eq_some_iff.1 hv).1]
  exact hv
theorem load43 {w : World} {g : Nat} {s : Sha.St} {blk : List Nat} {f n : Nat} (hl : blk.length = 64) (hB : Blk w g 55 (hcells s blk f n)) :
    (Instr.loadAt 38 (.pointer (some ⟨g, 8, none⟩))).run Tryd.prog w = .ok (.agg (Vs .u8 blk)) w := by
  refine run_loadAt_mid w g 8 38 (vals .u8 blk) _ (fun j v hv => ?_) Tryd.underlying38 rfl (by rw [vals_length, hl]; exact Tryd.info43)
  have h8 : (vals .u32 s.toList).length = 8 := by rw [vals_length]; rfl
  rw [hB.cell]
  simp only [hcells, List.getElem?_toArray]
  rw [List.getElem?_append_right (by omega), h8, Nat.add_sub_cancel_left, List.getElem?_append_left (List.getElem?_eq_some_iff.1 hv).1]
  exact hv
theorem store42 {w : World} {g : Nat} {s : Sha.St} {blk : List Nat} {f n : Nat} (s' : Sha.St) (hl : blk.length = 64) (hB : Blk w g 55 (hcells s blk f n)) :
    (Instr.storeAt 52 (.pointer (some ⟨g, 0, none⟩)) (.agg (Vs .u32 s'.toList))).run Tryd.prog w = .ok () (w.setRow g (hcells s' blk f n)) := by
  have h8 : (vals .u32 s'.toList).length = 8 := by rw [vals_length]; rfl
  have hst := run_storeCells_at Tryd.prog g 0 55 (vals .u32 s'.toList) 0 _ w hB (by rw [h8, hcells_size hl]; decide) (vals_one _ _)
  rw [h8] at hst
  simp only [Nat.add_zero, List.take_zero, List.nil_append, Nat.zero_add] at hst
  rw [hstate] at hst
  have hi : (sizeOf 52).run Tryd.prog w = .ok 8 w := by kernel_rfl
  have hc : (Value.agg (Vs .u32 s'.toList)).cells = Vs .u32 s'.toList := rfl
  have hz : (Vs .u32 s'.toList).size = 8 := Vs_size _ _
  simp only [Instr.storeAt, Instr.sureAddr, Sem.run_bind, Sem.run_pure, Result.andThen_ok, storeVar, hi, hc, hz]
  exact hst
theorem step_load {P : Program} {ops : Array Oper} {w : World} {K : Act → World → Prop} {Q : Exit → Act → World → Prop} {E : Prop} {a : Act} {o : Oper} (hgd : o.guard = none) (ty : TypeId) (x : Operand) (ho : o.op = .load ty x) (p v : Value) (hx : a.eval x = p)
    (hrun : (Instr.loadAt ty p).run P w = .ok v w) (h : K (a.put o.dst v) w) : if Region.wanted o (yielded ops a.tmps) = true then Oper.wp P o a w K Q else E := by
  have hw : Region.wanted o (yielded ops a.tmps) = true := by simp [Region.wanted, hgd]
  rw [if_pos hw]
  unfold Oper.wp execOp
  simp only [ho, hx, Sem.run_bind, hrun, Result.andThen_ok, Sem.run_pure]
  exact h
theorem step_store {P : Program} {ops : Array Oper} {w w' : World} {K : Act → World → Prop} {Q : Exit → Act → World → Prop} {E : Prop} {a : Act} {o : Oper} (hgd : o.guard = none) (ty : TypeId) (x y : Operand) (ho : o.op = .store ty x y) (p v : Value) (hx : a.eval x = p) (hy : a.eval y = v)
    (hrun : (Instr.storeAt ty p v).run P w = .ok () w') (h : K (a.put o.dst undef) w') : if Region.wanted o (yielded ops a.tmps) = true then Oper.wp P o a w K Q else E := by
  have hw : Region.wanted o (yielded ops a.tmps) = true := by simp [Region.wanted, hgd]
  rw [if_pos hw]
  unfold Oper.wp execOp
  simp only [ho, hx, hy, Sem.run_bind, hrun, Result.andThen_ok, Sem.run_pure]
  exact h
theorem hcells8 {w : World} {g : Nat} {s : Sha.St} {blk : List Nat} {f n : Nat} (h : Blk w g 55 (hcells s blk f n)) :
    w.cell? ⟨g, 0, none⟩ = some (.int .u32 (s.a : Nat)) ∧ w.cell? ⟨g, 1, none⟩ = some (.int .u32 (s.b : Nat)) ∧ w.cell? ⟨g, 2, none⟩ = some (.int .u32 (s.c : Nat)) ∧ w.cell? ⟨g, 3, none⟩ = some (.int .u32 (s.d : Nat)) ∧
    w.cell? ⟨g, 4, none⟩ = some (.int .u32 (s.e : Nat)) ∧ w.cell? ⟨g, 5, none⟩ = some (.int .u32 (s.f : Nat)) ∧ w.cell? ⟨g, 6, none⟩ = some (.int .u32 (s.g : Nat)) ∧ w.cell? ⟨g, 7, none⟩ = some (.int .u32 (s.h : Nat)) := by
  refine ⟨?_, ?_, ?_, ?_, ?_, ?_, ?_, ?_⟩ <;> rw [h.cell] <;> simp [hcells, vals, Sha.St.toList]
theorem hfrozen8 {w : World} {g : Nat} {cs : Array Value} (h : Blk w g 55 cs) :
    w.frozen? ⟨g, 0, none⟩ = false ∧ w.frozen? ⟨g, 1, none⟩ = false ∧ w.frozen? ⟨g, 2, none⟩ = false ∧ w.frozen? ⟨g, 3, none⟩ = false ∧ w.frozen? ⟨g, 4, none⟩ = false ∧ w.frozen? ⟨g, 5, none⟩ = false ∧ w.frozen? ⟨g, 6, none⟩ = false ∧ w.frozen? ⟨g, 7, none⟩ = false :=
  ⟨h.frozen 0, h.frozen 1, h.frozen 2, h.frozen 3, h.frozen 4, h.frozen 5, h.frozen 6, h.frozen 7⟩
theorem hrange {w : World} {g : Nat} {s : Sha.St} {blk : List Nat} {f n : Nat} (_hl : blk.length = 64) (hB : Blk w g 55 (hcells s blk f n)) : w.rangeAt g 8 (vals .u8 blk) := fun j v hv => by
  have h8 : (vals .u32 s.toList).length = 8 := by rw [vals_length]; rfl
  rw [hB.cell]
  simp only [hcells, List.getElem?_toArray]
  rw [List.getElem?_append_right (by omega), h8, Nat.add_sub_cancel_left, List.getElem?_append_left (List.getElem?_eq_some_iff.1 hv).1]
  exact hv
theorem range_set {w : World} {g i : Nat} {cs : List Value} {v : Value} (hi : i < 8) (h : w.rangeAt g 8 cs) : (w.setCell ⟨g, i, none⟩ v).rangeAt g 8 cs := fun j u hu => by
  rw [World.cell?_setCell_other _ _ _ _ (fun e => by injection e with _ e2; omega)]
  exact h j u hu
/-- compress's contract with the eight numbers written out. -/
theorem compress8 (s : Sha.St) (l : List Nat) (hs : s.ok) (hl : l.length = 64) (hb : Sha.Bs l) (w : World) (hK : Kat w) (h2 : 2 ≤ w.heap.size) :
    Calls Tryd.prog 29 #[.agg #[.int .u32 (s.a : Nat), .int .u32 (s.b : Nat), .int .u32 (s.c : Nat), .int .u32 (s.d : Nat), .int .u32 (s.e : Nat), .int .u32 (s.f : Nat), .int .u32 (s.g : Nat), .int .u32 (s.h : Nat)], .agg (vals .u8 l).toArray] w fun e w' =>
      e = .returned (.agg #[.int .u32 ((Sha.compress s l).a : Nat), .int .u32 ((Sha.compress s l).b : Nat), .int .u32 ((Sha.compress s l).c : Nat), .int .u32 ((Sha.compress s l).d : Nat), .int .u32 ((Sha.compress s l).e : Nat), .int .u32 ((Sha.compress s l).f : Nat), .int .u32 ((Sha.compress s l).g : Nat), .int .u32 ((Sha.compress s l).h : Nat)]) ∧ Below w.heap.size w w' :=
  compress_any s l hs hl hb w hK h2
theorem step_call {P : Program} {ops : Array Oper} {w : World} {K : Act → World → Prop} {Q : Exit → Act → World → Prop} {E : Prop} {a : Act} {o : Oper} (hgd : o.guard = none) (f : FuncId) (x y : Operand) (ts : Array TypeId)
    (ho : o.op = .call { callee := .value (.func f), args := #[x, y], argTypes := ts }) (u v : Value) (hu : a.eval x = u) (hv : a.eval y = v) (hcf : (callFunc f #[u, v]).run P w = .ok (.enter f #[u, v]) w) (hc : Calls P f #[u, v] w fun e w' => ∃ r, e = .returned r ∧ K (a.put o.dst r) w') :
    if Region.wanted o (yielded ops a.tmps) = true then Oper.wp P o a w K Q else E := by
  have hw : Region.wanted o (yielded ops a.tmps) = true := by simp [Region.wanted, hgd]
  rw [if_pos hw]
  unfold Oper.wp execOp
  have he : a.eval (Operand.func f) = Value.func (Fn.func f) #[] #[] := rfl
  have hr : (resolve a.eval { callee := .value (.func f), args := #[x, y], argTypes := ts } o.type).run P w = .ok { target := .fn (.func f) #[], args := #[u, v] } w := by
    simp only [resolve, he, Deferred.ofValue, List.map_toArray, List.map_cons, List.map_nil, hu, hv]
    rfl
  simp only [ho, Sem.run_bind, hr, Result.andThen_ok, invoke, hcf, Array.append_empty]
  refine hc.mono ?_
  rintro e w' ⟨r, rfl, hk⟩
  exact hk
theorem at0 (o : Oper) (l : List Oper) : (o :: l).toArray[0]? = some o := rfl
theorem atS {l : List Oper} {i : Nat} {o p : Oper} (h : l.toArray[i]? = some o) : (p :: l).toArray[i + 1]? = some o := by simpa using h
theorem Wr.full {w w4 : World} {g k q f : Nat} {m bs mm blk x : List Nat} {A2 : Option Addr} (hB : Blk w4 g 55 (hcells (Sha.proc mm) (Sha.splice blk f x) (f + q) (m.length + bs.length))) (hT : Sha.Tail mm blk)
    (hf : mm.length % 64 = f) (hm : m ++ bs.take k = mm) (hx : (bs.drop k).take q = x) (hl : x.length = q) (hb : Sha.Bs x) (hG : w.grownBy w4 (some g)) (hR : Rd w4 g A2 (bs.drop (k + q))) (hlt : f + q = 64) :
    Wr w g m bs (k + q) A2 ((w4.setRow g (hcells (Sha.compress (Sha.proc mm) (Sha.splice blk f x)) (Sha.splice blk f x) (f + q) (m.length + bs.length))).setCell ⟨g, 72, none⟩ (.int .i64 0)) := by
  subst hf
  obtain ⟨h1, h2, h3⟩ := Sha.tail_full hT hb (by omega)
  have e : m ++ bs.take (k + q) = mm ++ x := by rw [take_more, hm, hx]
  refine ⟨⟨_, by rw [e]; exact h1, ?_⟩, hR.grown (gb_put (gb_row (gb_refl w4 g) _) _ _), gb_put (gb_row hG _) _ _⟩
  rw [e, h2, h3]
  exact ((hB.row _).put 72 _).cast (hset72 h1.1 0)
set_option maxRecDepth 100000
set_option maxHeartbeats 1000000 in
theorem write_any (w : World) (g : Nat) (m bs : List Nat) (A : Option Addr) (c : Nat) (hb : Sha.Bs bs) (hH : Hst w g m m.length) (hR : Rd w g A bs) (hc : bs.length ≤ c) (hK : Kat w) (hg : 2 ≤ g) (hN : m.length + bs.length < 1152921504606846976) :
    Calls Tryd.prog 20 #[.pointer (some ⟨g, 0, none⟩), .slice A bs.length c] w fun e w' => e = .returned (.tuple #[]) ∧ Hst w' g (m ++ bs) (m.length + bs.length) ∧ w.grownBy w' (some g) := by
  obtain ⟨blk, hT, hB⟩ := hH
  have c73 := hcell73 hT.1 hB
  have f73 := hB.frozen 73
  have HB := Lib.hid hb
  have HR := Lib.hid hR
  have HK := Lib.hid hK
  have HT := Lib.hid hT
  have HBk := Lib.hid hB
  clear hb hR hK hT hB
  go_enter Tryd.func20, Tryd.ntmps20
  go_wp2
  have HW : Hid (Wr w g m bs 0 A (w.setCell ⟨g, 73, none⟩ (.int .u64 ((m.length : Int) + (bs.length : Int))))) := Lib.hid (by
    rw [show (m.length : Int) + (bs.length : Int) = ((m.length + bs.length : Nat) : Int) by omega]
    have hgb := gb_put (gb_refl w g) 73 (.int .u64 ((m.length + bs.length : Nat) : Int))
    refine ⟨⟨blk, by simpa using HT.out, ?_⟩, by simpa using HR.out.grown hgb, hgb⟩
    have := (HBk.out.put 73 (.int .u64 ((m.length + bs.length : Nat) : Int))).cast (hset73 HT.out.1 _)
    simpa using this)
  have hlt := HBk.out.lt
  clear c73 f73 HT HBk HR
  go_loopw [1] (fun v wr => ∃ (k : Nat) (A' : Option Addr) (c' : Nat), k ≤ bs.length ∧ bs.length - k ≤ c' ∧ v = .slice A' (bs.length - k) c' ∧ Wr w g m bs k A' wr) (fun v _ => lenV v)
  case atStart => exact ⟨0, A, c, by omega, by omega, by simp, HW.out⟩
  case round =>
    obtain ⟨k, A', c', hk, hc', rfl, hw⟩ := hrel
    obtain ⟨⟨blk, hT, hB⟩, hR, hgb⟩ := hw
    by_cases hlt2 : k < bs.length
    · obtain ⟨ad, rfl, had, hadlt, hcells⟩ := hR (by simp; omega)
      have c72 := hcell72 hT.1 hB
      have hf := Nat.mod_lt (m ++ bs.take k).length (show 0 < 64 by decide)
      generalize hmm : m ++ bs.take k = mm at hT hB c72 hf
      generalize hff : mm.length % 64 = f at hB c72 hf
      have HB2 := Lib.hid hB
      have HT := Lib.hid hT
      have HC := Lib.hid hcells
      have HF := Lib.hid hff
      have HM := Lib.hid hmm
      have HG := Lib.hid hgb
      have HR := Lib.hid hR
      clear hB hT hcells hff hmm hgb hR
      have n64 : ¬ 64 = f := by omega
      have f0 : (0 : Int) ≤ (f : Int) := by omega
      have f1 : (f : Int) ≤ 64 := by omega
      go_wp2
      go_still_tail 9, (by kernel_rfl)
      change wpList _ _ _ _ _ wr.drew
      obtain ⟨q, hq⟩ : ∃ q, q = Nat.min (bs.length - k) (64 - f) := ⟨_, rfl⟩
      have hq1 : 1 ≤ q := by rw [hq]; exact Nat.le_min.2 ⟨by omega, by omega⟩
      have hq2 : q ≤ bs.length - k := by rw [hq]; exact Nat.min_le_left _ _
      have hq3 : q ≤ 64 - f := by rw [hq]; exact Nat.min_le_right _ _
      have hxl : ((bs.drop k).take q).length = q := by simp; omega
      have hcp := run_copy_row (P := Tryd.prog) wr.drew 22 22 3 5 g (8 + f) (64 - f) (64 - f) ad (bs.length - k) c' _ 55 (vals .u8 ((bs.drop k).take q)) Tryd.underlying22 (by kernel_rfl) HB2.out.drew (by rw [vals_length, hxl, hq]) (fun j v hj => HC.out j v (by
        rw [← vals_take, List.getElem?_take] at hj
        split at hj
        · exact hj
        · cases hj)) (by rw [vals_length, hxl, hcells_size HT.out.1]; omega) (vals_one _ _)
      rw [hsplice HT.out.1 (by rw [hxl]; omega), vals_length, hxl] at hcp
      have HQ := Lib.hid hq
      have HX := Lib.hid hxl
      clear hq hxl
      go_upto_region 3 with (fail)
      have HBx := Lib.hid (HB.out.drop k |>.take q)
      generalize hxx : (bs.drop k).take q = x at HX hcp HBx
      generalize hw2 : wr.drew.setRow g _ = w2
      have hB2 : Blk w2 g 55 (hcells (Sha.proc mm) (Sha.splice blk f x) f (m.length + bs.length)) := by rw [← hw2]; exact HB2.out.drew.row _
      have hG2 : w.grownBy w2 (some g) := by rw [← hw2]; exact gb_row (gb_drew HG.out) _
      have hG3 : wr.grownBy w2 (some g) := by rw [← hw2]; exact gb_row (gb_drew (gb_refl wr g)) _
      have hsl := slice_from (some ad) (bs.length - k) c' q hq2
      have hR2 := (HR.out.grown hG3).cut (k := q) (cap := c') (by simp; omega)
      rw [List.drop_drop] at hR2
      generalize (if c' = q then some ad else (some ad).map (·.add q)) = A2 at hsl hR2
      have hsp : (Sha.splice blk f x).length = 64 := by rw [Sha.splice_length (by rw [HX.out, HT.out.1]; omega)]; exact HT.out.1
      have c72' := hcell72 hsp hB2
      have f72' := hB2.frozen 72
      have HXX := Lib.hid hxx
      have HB3 := Lib.hid hB2
      have HG2 := Lib.hid hG2
      have HR2 := Lib.hid hR2
      have HSP := Lib.hid hsp
      clear hcp hxx hw2 hB2 hG2 hG3 hR2 HB2 c72 hsp
      by_cases hfull : f + q = 64
      · have t1 : ((f : Int) + (q : Int) == 64) = true := by simp; omega
        go_upto_region 6 with (fail)
        generalize hw3 : w2.setCell ⟨g, 72, none⟩ _ = w3
        have hB3 : Blk w3 g 55 (hcells (Sha.proc mm) (Sha.splice blk f x) (f + q) (m.length + bs.length)) := by
          rw [← hw3, show (f : Int) + (q : Int) = ((f + q : Nat) : Int) by omega]
          exact (HB3.out.put 72 _).cast (hset72 HSP.out _)
        have hG3 : w.grownBy w3 (some g) := by rw [← hw3]; exact gb_put HG2.out _ _
        have hR3 : Rd w3 g A2 (bs.drop (k + q)) := by rw [← hw3]; exact HR2.out.grown (gb_put (gb_refl w2 g) _ _)
        clear hw3 c72' f72' hsl
        have l42 := load42 hB3.drew
        have l43 := load43 HSP.out hB3.drew
        have HB4 := Lib.hid hB3
        have HG3 := Lib.hid hG3
        have HR3 := Lib.hid hR3
        clear hB3 hG3 hR3
        have HFull := Lib.hid hfull
        clear hfull
        have HLT := Lib.hid HB4.out.lt
        refine wp_region_any (by kernel_rfl) ?_
        change wpAny _ _ _ _ 13 _ _ w3.drew
        refine wpAny_take (i := 0) (v := .pointer (some ⟨g, 0, none⟩)) (at0 _ _) (by kernel_rfl) (by kernel_rfl) (by kernel_rfl) (fun _ _ _ h => h) (.inl ⟨rfl, fun _ => rfl⟩) ?_
        refine wpAny_take (i := 1) (v := .pointer (some ⟨g, 0, none⟩)) (atS (at0 _ _)) (by kernel_rfl) (by kernel_rfl) (by kernel_rfl) (fun _ _ _ h => h) (.inl ⟨rfl, fun _ => rfl⟩) ?_
        refine wpAny_take (i := 2) (v := .pointer (some ⟨g, 0, none⟩)) (atS (atS (at0 _ _))) (by kernel_rfl) (by kernel_rfl) (by kernel_rfl) (fun _ _ _ h => h) (.inl ⟨rfl, fun _ => rfl⟩) ?_
        refine wpAny_take (i := 3) (v := .pointer (some ⟨g, 0, none⟩)) (atS (atS (atS (at0 _ _)))) (by kernel_rfl) (by kernel_rfl) (by kernel_rfl) (fun _ _ _ h => h) (.inl ⟨rfl, fun _ => by kernel_rfl⟩) ?_
        refine wpAny_take (i := 5) (v := .pointer (some ⟨g, 0, none⟩)) (atS (atS (atS (atS (atS (at0 _ _)))))) (by kernel_rfl) (by kernel_rfl) (by kernel_rfl) (fun _ _ _ h => h) (.inl ⟨rfl, fun _ => rfl⟩) ?_
        refine wpAny_take (i := 6) (v := .pointer (some ⟨g, 0, none⟩)) (atS (atS (atS (atS (atS (atS (at0 _ _))))))) (by kernel_rfl) (by kernel_rfl) (by kernel_rfl) (fun _ _ _ h => h) (.inl ⟨rfl, fun _ => rfl⟩) ?_
        refine wpAny_take (i := 7) (v := .pointer (some ⟨g, 8, none⟩)) (atS (atS (atS (atS (atS (atS (atS (at0 _ _)))))))) (by kernel_rfl) (by kernel_rfl) (by kernel_rfl) (fun _ _ _ h => h) (.inl ⟨rfl, fun _ => by kernel_rfl⟩) ?_
        simp only [Act.put, List.setIfInBounds_toArray, List.set_cons_succ, List.set_cons_zero]
        refine wpAny_ready (rs := [4, 8]) (by kernel_rfl) (by simp) (AllReady.cons (atS (atS (atS (atS (at0 _ _))))) ?_ (AllReady.cons (atS (atS (atS (atS (atS (atS (atS (atS (at0 _ _))))))))) ?_ AllReady.nil))
        · intro K1 hK1
          refine step_load rfl 52 (.tmp 47) rfl (.pointer (some ⟨g, 0, none⟩)) _ rfl l42 ?_
          refine hK1 _ _ ?_
          clear hK1
          refine wpAny_ready (rs := [8]) (by kernel_rfl) (by simp) (AllReady.cons (atS (atS (atS (atS (atS (atS (atS (atS (at0 _ _))))))))) ?_ AllReady.nil)
          intro K2 hK2
          refine step_load rfl 38 (.tmp 51) rfl (.pointer (some ⟨g, 8, none⟩)) _ rfl l43 ?_
          refine hK2 _ _ ?_
          clear hK2
          simp only [Act.put, List.setIfInBounds_toArray, List.set_cons_succ, List.set_cons_zero]
          refine wpAny_ready (rs := [9]) (by kernel_rfl) (by simp) (AllReady.cons (atS (atS (atS (atS (atS (atS (atS (atS (atS (at0 _ _)))))))))) ?_ AllReady.nil)
          intro K3 hK3
          refine step_call rfl 29 (.tmp 48) (.tmp 52) _ rfl (.agg (Vs .u32 (Sha.proc mm).toList)) (.agg (Vs .u8 (Sha.splice blk f x))) rfl rfl (by kernel_rfl) ?_
          refine (compress_any (Sha.proc mm) (Sha.splice blk f x) (Sha.proc_ok mm) HSP.out (HT.out.2.1.splice HBx.out) w3.drew (HK.out.grown (gb_drew HG3.out) hg hlt) (by have := HLT.out; show 2 ≤ w3.heap.size; omega)).mono ?_
          rintro e w4 ⟨rfl, hb4⟩
          refine ⟨_, rfl, hK3 _ _ ?_⟩
          clear hK3
          have k4 := HB4.out.drew.below hb4 HLT.out
          have st4 := store42 (Sha.compress (Sha.proc mm) (Sha.splice blk f x)) HSP.out k4
          simp only [Act.put, List.setIfInBounds_toArray, List.set_cons_succ, List.set_cons_zero]
          refine wpAny_take (i := 10) (v := .pointer (some ⟨g, 0, none⟩)) (atS (atS (atS (atS (atS (atS (atS (atS (atS (atS (at0 _ _))))))))))) (by kernel_rfl) (by kernel_rfl) (by kernel_rfl) (fun _ _ _ h => h) (.inl ⟨rfl, fun _ => rfl⟩) ?_
          refine wpAny_take (i := 11) (v := .pointer (some ⟨g, 0, none⟩)) (atS (atS (atS (atS (atS (atS (atS (atS (atS (atS (atS (at0 _ _)))))))))))) (by kernel_rfl) (by kernel_rfl) (by kernel_rfl) (fun _ _ _ h => h) (.inl ⟨rfl, fun _ => by kernel_rfl⟩) ?_
          simp only [Act.put, List.setIfInBounds_toArray, List.set_cons_succ, List.set_cons_zero]
          refine wpAny_ready (rs := [12]) (by kernel_rfl) (by simp) (AllReady.cons (atS (atS (atS (atS (atS (atS (atS (atS (atS (atS (atS (atS (at0 _ _))))))))))))) ?_ AllReady.nil)
          intro K5 hK5
          refine step_store rfl 52 (.tmp 55) (.tmp 53) rfl (.pointer (some ⟨g, 0, none⟩)) (.agg (Vs .u32 (Sha.compress (Sha.proc mm) (Sha.splice blk f x)).toList)) rfl rfl st4 ?_
          refine hK5 _ _ (wpAny_done (by kernel_rfl) ?_ _)
          clear hK5 st4
          have HE := Lib.hid (Wr.full k4 HT.out HF.out HM.out HXX.out HX.out HBx.out (gb_below (gb_drew HG3.out) hb4) (HR3.out.grown (gb_below (gb_drew (gb_refl w3 g)) hb4)) HFull.out)
          have k5 := k4.row (hcells (Sha.compress (Sha.proc mm) (Sha.splice blk f x)) (Sha.splice blk f x) (f + q) (m.length + bs.length))
          have c72b := hcell72 HSP.out k5
          have f72b := k5.frozen 72
          clear k4 k5 hb4
          go_wp2
          go_roundw
          case rel => exact ⟨k + q, A2, c' - q, by omega, by omega, by rw [Nat.sub_sub], HE.out⟩
          case measure => simp [lenV]; omega
        · intro K1 hK1
          refine step_load rfl 38 (.tmp 51) rfl (.pointer (some ⟨g, 8, none⟩)) _ rfl l43 ?_
          refine hK1 _ _ ?_
          clear hK1
          refine wpAny_ready (rs := [4]) (by kernel_rfl) (by simp) (AllReady.cons (atS (atS (atS (atS (at0 _ _))))) ?_ AllReady.nil)
          intro K2 hK2
          refine step_load rfl 52 (.tmp 47) rfl (.pointer (some ⟨g, 0, none⟩)) _ rfl l42 ?_
          refine hK2 _ _ ?_
          clear hK2
          simp only [Act.put, List.setIfInBounds_toArray, List.set_cons_succ, List.set_cons_zero]
          refine wpAny_ready (rs := [9]) (by kernel_rfl) (by simp) (AllReady.cons (atS (atS (atS (atS (atS (atS (atS (atS (atS (at0 _ _)))))))))) ?_ AllReady.nil)
          intro K3 hK3
          refine step_call rfl 29 (.tmp 48) (.tmp 52) _ rfl (.agg (Vs .u32 (Sha.proc mm).toList)) (.agg (Vs .u8 (Sha.splice blk f x))) rfl rfl (by kernel_rfl) ?_
          refine (compress_any (Sha.proc mm) (Sha.splice blk f x) (Sha.proc_ok mm) HSP.out (HT.out.2.1.splice HBx.out) w3.drew (HK.out.grown (gb_drew HG3.out) hg hlt) (by have := HLT.out; show 2 ≤ w3.heap.size; omega)).mono ?_
          rintro e w4 ⟨rfl, hb4⟩
          refine ⟨_, rfl, hK3 _ _ ?_⟩
          clear hK3
          have k4 := HB4.out.drew.below hb4 HLT.out
          have st4 := store42 (Sha.compress (Sha.proc mm) (Sha.splice blk f x)) HSP.out k4
          simp only [Act.put, List.setIfInBounds_toArray, List.set_cons_succ, List.set_cons_zero]
          refine wpAny_take (i := 10) (v := .pointer (some ⟨g, 0, none⟩)) (atS (atS (atS (atS (atS (atS (atS (atS (atS (atS (at0 _ _))))))))))) (by kernel_rfl) (by kernel_rfl) (by kernel_rfl) (fun _ _ _ h => h) (.inl ⟨rfl, fun _ => rfl⟩) ?_
          refine wpAny_take (i := 11) (v := .pointer (some ⟨g, 0, none⟩)) (atS (atS (atS (atS (atS (atS (atS (atS (atS (atS (atS (at0 _ _)))))))))))) (by kernel_rfl) (by kernel_rfl) (by kernel_rfl) (fun _ _ _ h => h) (.inl ⟨rfl, fun _ => by kernel_rfl⟩) ?_
          simp only [Act.put, List.setIfInBounds_toArray, List.set_cons_succ, List.set_cons_zero]
          refine wpAny_ready (rs := [12]) (by kernel_rfl) (by simp) (AllReady.cons (atS (atS (atS (atS (atS (atS (atS (atS (atS (atS (atS (atS (at0 _ _))))))))))))) ?_ AllReady.nil)
          intro K5 hK5
          refine step_store rfl 52 (.tmp 55) (.tmp 53) rfl (.pointer (some ⟨g, 0, none⟩)) (.agg (Vs .u32 (Sha.compress (Sha.proc mm) (Sha.splice blk f x)).toList)) rfl rfl st4 ?_
          refine hK5 _ _ (wpAny_done (by kernel_rfl) ?_ _)
          clear hK5 st4
          have HE := Lib.hid (Wr.full k4 HT.out HF.out HM.out HXX.out HX.out HBx.out (gb_below (gb_drew HG3.out) hb4) (HR3.out.grown (gb_below (gb_drew (gb_refl w3 g)) hb4)) HFull.out)
          have k5 := k4.row (hcells (Sha.compress (Sha.proc mm) (Sha.splice blk f x)) (Sha.splice blk f x) (f + q) (m.length + bs.length))
          have c72b := hcell72 HSP.out k5
          have f72b := k5.frozen 72
          clear k4 k5 hb4
          go_wp2
          go_roundw
          case rel => exact ⟨k + q, A2, c' - q, by omega, by omega, by rw [Nat.sub_sub], HE.out⟩
          case measure => simp [lenV]; omega
      · have t1 : ((f : Int) + (q : Int) == 64) = false := by simp; omega
        go_wp2
        go_roundw
        case rel => exact ⟨k + q, A2, c' - q, by omega, by omega, by rw [Nat.sub_sub], Wr.more HB3.out HT.out HF.out HM.out HXX.out HX.out HBx.out HG2.out HR2.out (by omega)⟩
        case measure => simp [lenV]; omega
    · obtain rfl : k = bs.length := by omega
      rw [List.take_length] at hT hB
      have HH : Hid (Hst wr g (m ++ bs) (m.length + bs.length)) := Lib.hid ⟨blk, hT, hB⟩
      have HG := Lib.hid hgb
      clear hT hB hR hgb
      go_wp2
      go_end0
      exact ⟨rfl, HH.out, HG.out⟩
end Go.Proofs.YtfkkpbfoipfekaaDoor
