/-
  Words for memory that the walks of package disk share: bytes as strings, a block known whole, what a slice reads as, and worlds in which all but two blocks are as they were.
-/
import Derived.Test.YtaoaegkfejlgkaaProg
import Derived.WalkKit
import Derived.WalkSpells
import Derived.WalkLawsBesides
import Derived.Lib.Hide
import Derived.Deep.Draws
import Derived.Laws.Rows
import Derived.Laws.Tables
import Derived.Laws.Strings2
import Derived.Laws.Strings3
import Derived.Laws.CopyOwn
import Derived.Deep.MidRow
import Derived.Lib.SlBytesConst
import Derived.Lib.UnsafeStr
import Derived.Lib.Bytealg
namespace Go.Proofs.Ytaoaegkfejlgkaa.Dsk
open Go.RowKit
theorem ret_num {k : IntKind} {a b : Int} (h : a = b) : Ending.returned (.int k a) = .returned (.int k b) := by rw [h]
theorem ret_bool {a b : Bool} (h : a = b) : Ending.returned (.bool a) = .returned (.bool b) := by rw [h]
/-- Bytes as a string. -/
def mk (l : List UInt8) : ByteArray := ⟨l.toArray⟩
theorem mk_size (l : List UInt8) : (mk l).size = l.length := by
  show (mk l).data.size = _
  simp [mk]
theorem mk_toList (l : List UInt8) : (mk l).toList = l := ByteArray.toList_mk l
theorem mk_data (l : List UInt8) : (mk l).data.toList = l := by simp [mk]
theorem of_mk (s : ByteArray) : mk s.data.toList = s := by cases s; rfl
theorem mk_inj {l m : List UInt8} (h : mk l = mk m) : l = m := by rw [← mk_data l, ← mk_data m, h]
/-! Bytes as cells. -/
abbrev bc (l : List UInt8) : List Value := Lib.byteCells l
theorem bc_length (l : List UInt8) : (bc l).length = l.length := Lib.byteCells_length l
theorem bc_append (l m : List UInt8) : bc (l ++ m) = bc l ++ bc m := by simp [bc, Lib.byteCells]
theorem bc_take (l : List UInt8) (n : Nat) : bc (l.take n) = (bc l).take n := by simp [bc, Lib.byteCells]
theorem bc_drop (l : List UInt8) (n : Nat) : bc (l.drop n) = (bc l).drop n := by simp [bc, Lib.byteCells]
theorem bc_get (l : List UInt8) (i : Nat) (h : i < l.length) : (bc l)[i]? = some (.int .u8 ((l.getD i 0).toNat : Nat)) := by
  simp [bc, Lib.byteCells, List.getElem?_map, List.getElem?_eq_getElem h, List.getD_eq_getElem?_getD]
theorem bc_one (l : List UInt8) : ∀ u ∈ bc l, u.oneCell' = true := by
  intro u hu
  simp only [bc, Lib.byteCells, List.mem_map] at hu
  obtain ⟨n, _, rfl⟩ := hu
  rfl
theorem bc_zero (n : Nat) : bc (List.replicate n 0) = List.replicate n (.int .u8 0) := by simp [bc, Lib.byteCells]
theorem bc_splice (l b : List UInt8) (off : Nat) : bc (splice l off b) = splice (bc l) off (bc b) := by
  unfold splice
  rw [bc_append, bc_append, bc_take, bc_drop, bc_length]
theorem bc_set (l : List UInt8) (i : Nat) (v : UInt8) : (bc l).set i (.int .u8 (v.toNat : Int)) = bc (l.set i v) := by simp [bc, Lib.byteCells, List.map_set]
/-- Block g holds just these cells, none of them frozen. -/
def Blk (w : World) (g : Nat) (t : TypeId) (cs : List Value) : Prop := w.heap[g]? = some (.cells cs.toArray t (0, 0))
/-- But for the blocks d and g all that was there is as it was. -/
structure But (d g : Nat) (w w' : World) : Prop where
  os : w'.os = w.os
  tape : w'.tape = w.tape
  output : w'.output = w.output
  size : w.heap.size ≤ w'.heap.size
  block : ∀ k, k < w.heap.size → k ≠ d → k ≠ g → w'.heap[k]? = w.heap[k]?
section
variable {w w' w2 : World} {g d k : Nat} {t : TypeId} {cs : List Value}
theorem Blk.lt (h : Blk w g t cs) : g < w.heap.size := by
  by_cases hlt : g < w.heap.size
  · exact hlt
  · unfold Blk at h; rw [Array.getElem?_eq_none (by omega)] at h; cases h
theorem Blk.cell (h : Blk w g t cs) (i : Nat) : w.cell? ⟨g, i, none⟩ = cs[i]? := by
  rw [cell_of_row w g i cs.toArray t (0, 0) h]; simp
theorem Blk.frozen (h : Blk w g t cs) (i : Nat) : w.frozen? ⟨g, i, none⟩ = false := by
  unfold Blk at h; simp [World.frozen?, h]
theorem Blk.new (w : World) (t : TypeId) (C : Array Value) (cs : List Value) (h : C = cs.toArray) : Blk (w.alloc (.cells C t)) w.heap.size t cs := by
  subst h; exact heap_alloc_new w _
theorem Blk.alloc (h : Blk w g t cs) (o : Obj) : Blk (w.alloc o) g t cs := (Below.heap_alloc w _ g h.lt).trans h
theorem Blk.put (h : Blk w g t cs) (i : Nat) (u : Value) : Blk (w.setCell ⟨g, i, none⟩ u) g t (cs.set i u) := by
  unfold Blk at h ⊢
  simp [World.setCell, Array.getElem?_modify, h]
theorem Blk.other (h : Blk w g t cs) (i : Nat) (u : Value) (hk : g ≠ k) : Blk (w.setCell ⟨k, i, none⟩ u) g t cs :=
  (Below.heap_setCell w ⟨k, i, none⟩ u g hk).trans h
theorem Blk.below {B : Nat} (h : Blk w g t cs) (hb : Below B w w') (hg : g < B) : Blk w' g t cs := (hb.block g hg).trans h
theorem Blk.but (h : Blk w k t cs) (hb : But d g w w') (h1 : k ≠ d) (h2 : k ≠ g) : Blk w' k t cs := (hb.block k h.lt h1 h2).trans h
theorem But.refl (d g : Nat) (w : World) : But d g w w := ⟨rfl, rfl, rfl, Nat.le_refl _, fun _ _ _ _ => rfl⟩
theorem But.trans (h : But d g w w') (k : But d g w' w2) : But d g w w2 :=
  ⟨k.os.trans h.os, k.tape.trans h.tape, k.output.trans h.output, Nat.le_trans h.size k.size, fun i hi a b => (k.block i (Nat.lt_of_lt_of_le hi h.size) a b).trans (h.block i hi a b)⟩
theorem But.below {B : Nat} (h : But d g w w') (hB : B ≤ w.heap.size) (hd : B ≤ d) (hg : B ≤ g) : Below B w w' :=
  ⟨h.os, h.tape, h.output, h.size, fun k hk => h.block k (by omega) (by omega) (by omega)⟩
theorem But.of_below (h : Below w.heap.size w w') : But d g w w' := ⟨h.os, h.tape, h.output, h.size, fun k hk _ _ => h.block k hk⟩
theorem But.putd (h : But d g w w') (i : Nat) (u : Value) : But d g w (w'.setCell ⟨d, i, none⟩ u) :=
  h.trans ⟨rfl, rfl, rfl, by simp [World.setCell], fun k _ a _ => Below.heap_setCell _ _ _ _ a⟩
theorem But.putg (h : But d g w w') (i : Nat) (u : Value) : But d g w (w'.setCell ⟨g, i, none⟩ u) :=
  h.trans ⟨rfl, rfl, rfl, by simp [World.setCell], fun k _ _ b => Below.heap_setCell _ _ _ _ b⟩
theorem But.alloc (h : But d g w w') (o : Obj) : But d g w (w'.alloc o) := h.trans ⟨rfl, rfl, rfl, by simp, fun k hk _ _ => Below.heap_alloc _ _ _ hk⟩
theorem But.drew (h : But d g w w') : But d g w w'.drew := ⟨h.os, h.tape, h.output, h.size, h.block⟩
end
theorem block_add (a : Addr) (n : Nat) : (a.add n).block = a.block := by unfold Addr.add; split <;> rfl
theorem add_add (a : Addr) (i j : Nat) : (a.add i).add j = a.add (i + j) := by
  unfold Addr.add
  by_cases hi : i = 0 <;> by_cases hj : j = 0 <;> simp [hi, hj, Nat.add_assoc]
/-- A slice at A reads as these bytes, in a block for which S holds. -/
def Rd (w : World) (S : Nat → Prop) (A : Option Addr) (l : List UInt8) : Prop := 0 < l.length → ∃ ad, A = some ad ∧ S ad.block ∧ ad.block < w.heap.size ∧ ∀ j u, (bc l)[j]? = some u → w.cell? (ad.add j) = some u
section
variable {w w' : World} {S S' : Nat → Prop} {A : Option Addr} {l : List UInt8}
theorem Rd.below {B : Nat} (h : Rd w S A l) (hb : Below B w w') (hS : ∀ k, S k → k < B) : Rd w' S A l := fun hl => by
  obtain ⟨ad, e, h1, h2, h3⟩ := h hl
  exact ⟨ad, e, h1, Nat.lt_of_lt_of_le h2 hb.size, fun j u hu => (hb.cell (by rw [block_add]; exact hS _ h1)).trans (h3 j u hu)⟩
theorem Rd.but {d g : Nat} (h : Rd w S A l) (hb : But d g w w') (hd : ¬ S d) (hg : ¬ S g) : Rd w' S A l := fun hl => by
  obtain ⟨ad, e, h1, h2, h3⟩ := h hl
  refine ⟨ad, e, h1, Nat.lt_of_lt_of_le h2 hb.size, fun j u hu => ?_⟩
  have := h3 j u hu
  rw [← this]
  refine World.cell?_of_block ?_
  rw [block_add]
  exact hb.block _ h2 (fun e => hd (e ▸ h1)) (fun e => hg (e ▸ h1))
theorem Rd.more (h : Rd w S A l) (hS : ∀ k, S k → S' k) : Rd w S' A l := fun hl => by
  obtain ⟨ad, e, h1, h2, h3⟩ := h hl
  exact ⟨ad, e, hS _ h1, h2, h3⟩
theorem Rd.nil (w : World) (S : Nat → Prop) (A : Option Addr) : Rd w S A [] := fun h => absurd h (by decide)
theorem Rd.of_blk {g : Nat} (h : Blk w g 5 (bc l)) : Rd w (· = g) (some ⟨g, 0, none⟩) l := fun _ => by
  refine ⟨_, rfl, rfl, h.lt, fun j u hu => ?_⟩
  rw [Addr.add_mid, Nat.zero_add, h.cell]; exact hu
theorem Rd.of_part {g a n : Nat} (h : Blk w g 5 (bc l)) : Rd w (· = g) (some ⟨g, a, none⟩) ((l.drop a).take n) := fun _ => by
  refine ⟨_, rfl, rfl, h.lt, fun j u hu => ?_⟩
  rw [Addr.add_mid, h.cell]
  rw [bc_take, List.getElem?_take] at hu
  split at hu
  · rw [bc_drop, List.getElem?_drop] at hu; exact hu
  · cases hu
theorem Rd.cells (h : Rd w S A l) (n : Nat) : 0 < (bc (l.take n)).length → ∃ ad, A = some ad ∧ ∀ j v, (bc (l.take n))[j]? = some v → w.cell? (ad.add j) = some v := fun hn => by
  rw [bc_length, List.length_take] at hn
  obtain ⟨ad, e, _, _, h3⟩ := h (by omega)
  refine ⟨ad, e, fun j v hv => h3 j v ?_⟩
  rw [bc_take, List.getElem?_take] at hv
  split at hv
  · exact hv
  · cases hv
theorem Rd.all (h : Rd w S A l) : 0 < (bc l).length → ∃ ad, A = some ad ∧ ∀ j v, (bc l)[j]? = some v → w.cell? (ad.add j) = some v := fun hn => by
  rw [bc_length] at hn
  obtain ⟨ad, e, _, _, h3⟩ := h hn
  exact ⟨ad, e, h3⟩
end
/-! Bytes as a string. -/
theorem strOf_data (l : List UInt8) : ∀ r : ByteArray, ((l.map fun n : UInt8 => (n.toNat : Int)).foldl (fun r n => r.push (UInt8.ofNat n.toNat)) r).data = r.data ++ l.toArray := by
  induction l with
  | nil => intro r; simp
  | cons x l ih =>
    intro r
    simp only [List.map_cons, List.foldl_cons, Int.toNat_natCast]
    rw [ih]
    simp [ByteArray.push]
theorem strOf_mk (l : List UInt8) : (l.map fun n : UInt8 => (n.toNat : Int)).foldl (fun r n => r.push (UInt8.ofNat n.toNat)) ByteArray.empty = mk l := by
  have := strOf_data l ByteArray.empty
  cases hh : (l.map fun n : UInt8 => (n.toNat : Int)).foldl (fun r n => r.push (UInt8.ofNat n.toNat)) ByteArray.empty with
  | mk d =>
    rw [hh] at this
    unfold mk
    congr 1
    simpa using this
theorem conv_rd {w : World} {S : Nat → Prop} {A : Option Addr} {l : List UInt8} (n c : Nat) (h : Rd w S A l) (hn : n = l.length) : (convert 33 9 (.slice A n c)).run Try.prog w = .ok (.string (mk l)) w := by
  subst hn
  rw [run_convert_bytes_string w 33 9 5 _ _ _ Try.underlying33 Try.underlying5 Try.underlying9]
  cases A with
  | none =>
    have hn : l = [] := by
      cases l with
      | nil => rfl
      | cons y r => obtain ⟨_, e, _⟩ := h (by simp); cases e
    subst hn
    rfl
  | some ad =>
    rw [← strOf_mk]
    refine run_bytesToString w _ l.length c (l.map fun n : UInt8 => (n.toNat : Int)) ?_
    have := run_loadCells_list (P := Try.prog) w ad (bc l) (fun j u hu => by
      have hj' : j < (bc l).length := (List.getElem?_eq_some_iff.1 hu).1
      obtain ⟨ad', e, _, _, h3⟩ := h (by rw [bc_length] at hj'; omega)
      injection e with e
      subst e
      exact h3 j u hu)
    rw [bc_length] at this
    rw [this]
    simp [bc, Lib.byteCells]
theorem conv_const (w : World) (g : Nat) (C : Array Value) (n c : Nat) (h : w.heap.size = g) :
    (convert 33 33 (.slice (some ⟨g, 0, none⟩) n c)).run Try.prog (w.alloc (.cells C 5)) = .ok (.slice (some ⟨g, 0, none⟩) n c) (w.alloc (.cells C 5 (C.size, C.size + 1))) := by
  subst h
  exact Lib.run_convert_bytes_const w 33 5 C n c Try.underlying33 Try.underlying5
/-- What a literal's row reads as. -/
theorem lit_rd (w : World) (l : List UInt8) (C : Array Value) (hC : C = (bc l).toArray) (f : Nat × Nat) : Rd (w.alloc (.cells C 5 f)) (· = w.heap.size) (some ⟨w.heap.size, 0, none⟩) l := fun _ => by
  subst hC
  refine ⟨_, rfl, rfl, by simp, fun j u hu => ?_⟩
  rw [Addr.add_mid, Nat.zero_add]
  have := heap_alloc_new w (Obj.cells (bc l).toArray 5 f)
  rw [cell_of_row _ _ _ _ _ _ this]
  simpa using hu
theorem wpList_convertRunW {P : Program} {ops : Array Oper} {rest : List Oper} {o : Oper} {a : Act} {w : World} {Q : Exit → Act → World → Prop} (s d : TypeId) (x : Operand) (ho : o.op = .convert s d x) (hw : Region.wanted o (yielded ops a.tmps) = true) (p v : Value) (hp : a.eval x = p)
    (hrun : (convert s d p).run P w = .ok v w) (h : wpList P ops Q rest (a.put o.dst v) w) : wpList P ops Q (o :: rest) a w :=
  wpList_step fun _ hK => by
    rw [if_pos hw]
    unfold Oper.wp execOp
    simp only [ho, hp, Sem.run_bind, hrun, Result.andThen_ok, Sem.run_pure]
    exact hK _ _ h
end Go.Proofs.Ytaoaegkfejlgkaa.Dsk
