/-
  Words for memory that the walks of package b64 share: a list of numbers as bytes, a block known whole, bytes that a slice reads as, a row of one's own to which bytes are appended, bytes as a string.
-/
import Derived.Test.YtcpifencjmlhaaaDoorQMath
import Derived.Test.YtcpifencjmlhaaaDoorProg
import Derived.WalkKit
import Derived.WalkSpells
import Derived.WalkLawsBesides
import Derived.Lib.Hide
import Derived.Deep.Draws
import Derived.Laws.Rows
import Derived.Laws.Tables
import Derived.Deep.MidRow
import Derived.Lib.SlBytesConst
import Derived.Laws.AppendOwnNone
import Derived.Lib.UnsafeStr
namespace Go.Proofs.YtcpifencjmlhaaaDoor.B64
open Go.RowKit
theorem ret_num {k : IntKind} {a b : Int} (h : a = b) : Ending.returned (.int k a) = .returned (.int k b) := by rw [h]
theorem int_num {k : IntKind} {a b : Int} (h : a = b) : Value.int k a = .int k b := by rw [h]
/-- Natural numbers as values of one integer kind. -/
def vals (k : IntKind) (l : List Nat) : List Value := l.map fun n : Nat => Value.int k (n : Int)
def Vs (k : IntKind) (l : List Nat) : Array Value := (vals k l).toArray
theorem vals_length (k : IntKind) (l : List Nat) : (vals k l).length = l.length := by simp [vals]
theorem vals_get (k : IntKind) (l : List Nat) (i : Nat) (h : i < l.length) : (vals k l)[i]? = some (.int k (l.getD i 0 : Nat)) := by
  simp [vals, List.getElem?_map, List.getElem?_eq_getElem h, List.getD_eq_getElem?_getD]
theorem Vs_get (k : IntKind) (l : List Nat) (i : Nat) (h : i < l.length) : (Vs k l)[i]? = some (.int k (l.getD i 0 : Nat)) := by
  simpa [Vs] using vals_get k l i h
theorem vals_append (k : IntKind) (l m : List Nat) : vals k (l ++ m) = vals k l ++ vals k m := by simp [vals]
theorem vals_set (k : IntKind) (l : List Nat) (i v : Nat) : (vals k l).set i (.int k (v : Int)) = vals k (l.set i v) := by simp [vals, List.map_set]
theorem Vs_set (k : IntKind) (l : List Nat) (i v : Nat) : (Vs k l).setIfInBounds i (.int k (v : Int)) = Vs k (l.set i v) := by
  simp [Vs, vals, List.map_set]
theorem vals_one (k : IntKind) (l : List Nat) : ∀ u ∈ vals k l, u.oneCell' = true := by
  intro u hu
  simp only [vals, List.mem_map] at hu
  obtain ⟨n, _, rfl⟩ := hu
  rfl
/-- Block g holds just these cells, none of them frozen. -/
def Blk (w : World) (g : Nat) (t : TypeId) (cs : Array Value) : Prop := w.heap[g]? = some (.cells cs t (0, 0))
section
variable {w w' : World} {g : Nat} {t : TypeId} {cs : Array Value}
theorem Blk.lt (h : Blk w g t cs) : g < w.heap.size := by
  by_cases hlt : g < w.heap.size
  · exact hlt
  · unfold Blk at h; rw [Array.getElem?_eq_none (by omega)] at h; cases h
theorem Blk.cell (h : Blk w g t cs) (i : Nat) : w.cell? ⟨g, i, none⟩ = cs[i]? := cell_of_row w g i cs t (0, 0) h
theorem Blk.frozen (h : Blk w g t cs) (i : Nat) : w.frozen? ⟨g, i, none⟩ = false := by
  unfold Blk at h; simp [World.frozen?, h]
theorem Blk.new (w : World) (t : TypeId) (cs : Array Value) : Blk (w.alloc (.cells cs t)) w.heap.size t cs := heap_alloc_new w _
theorem Blk.put (h : Blk w g t cs) (i : Nat) (u : Value) : Blk (w.setCell ⟨g, i, none⟩ u) g t (cs.setIfInBounds i u) := by
  unfold Blk at h ⊢
  simp [World.setCell, Array.getElem?_modify, h]
theorem Blk.below {B : Nat} (h : Blk w g t cs) (hb : Below B w w') (hg : g < B) : Blk w' g t cs := (hb.block g hg).trans h
theorem Blk.grown {row : Option Nat} (h : Blk w g t cs) (hb : w.grownBy w' row) (hg : some g ≠ row) : Blk w' g t cs := (hb.block g h.lt hg).trans h
end
theorem block_add (a : Addr) (n : Nat) : (a.add n).block = a.block := by unfold Addr.add; split <;> rfl
theorem add_add (a : Addr) (i j : Nat) : (a.add i).add j = a.add (i + j) := by
  unfold Addr.add
  by_cases hi : i = 0 <;> by_cases hj : j = 0 <;> simp [hi, hj, Nat.add_assoc]
/-- A slice at A reads as these bytes, and lies below block B. -/
def RdB (w : World) (B : Nat) (A : Option Addr) (l : List Nat) : Prop := 0 < l.length → ∃ ad, A = some ad ∧ ad.block < B ∧ ∀ j u, (vals .u8 l)[j]? = some u → w.cell? (ad.add j) = some u
theorem RdB.below {w w' : World} {B : Nat} {A : Option Addr} {l : List Nat} (h : RdB w B A l) (hb : Below B w w') : RdB w' B A l := fun hl => by
  obtain ⟨ad, e, h1, h2⟩ := h hl
  exact ⟨ad, e, h1, fun j u hu => (hb.cell (by rw [block_add]; exact h1)).trans (h2 j u hu)⟩
theorem RdB.more {w : World} {B B' : Nat} {A : Option Addr} {l : List Nat} (h : RdB w B A l) (hB : B ≤ B') : RdB w B' A l := fun hl => by
  obtain ⟨ad, e, h1, h2⟩ := h hl
  exact ⟨ad, e, by omega, h2⟩
theorem RdB.nil (w : World) (B : Nat) (A : Option Addr) : RdB w B A [] := fun h => absurd h (by decide)
/-! Rows of one's own. -/
theorem info5 : (Tryd.prog.info? 5).map (fun i => (i.zero, i.size, i.bytes)) = some (some (.int .u8 0), 1, 1) := by kernel_rfl
/-- A row of one's own holds these bytes. -/
abbrev Own (w : World) (base : Nat) (v : Value) (l : List Nat) : Prop := w.ownsRow base 5 1 v l.length (vals .u8 l)
/-- append(x, y...) onto a row of the call's own, y nil, empty or not. -/
theorem wpList_append_bytes {w : World} {ops : Array Oper} {rest : List Oper} {o : Oper} {a : Act} {Q : Exit → Act → World → Prop} (hgd : o.guard = none) (s x : Operand)
    (ho : o.op = .call { callee := .builtin .append, args := #[s, x], argTypes := #[22, 22] }) (base : Nat) (v : Value) (l : List Nat) (hs : a.eval s = v) (hown : Own w base v l)
    (A : Option Addr) (c : Nat) (l' : List Nat) (hx : a.eval x = .slice A l'.length c) (hc : A = none → c = 0) (hr : RdB w w.heap.size A l') (hb : l.length + l'.length ≤ 1000000) (hbase : base ≤ w.heap.size)
    (h : ∀ v' w', Own w' base v' (l ++ l') → w.grownBy w' v.ownBlock → wpList Tryd.prog ops Q rest (a.put o.dst v') w') : wpList Tryd.prog ops Q (o :: rest) a w := by
  obtain ⟨i0, hi0, hz0, hz1, hz2⟩ := info_parts info5
  cases A with
  | none =>
    have hl : l' = [] := by
      cases l' with
      | nil => rfl
      | cons y r => obtain ⟨_, e, _⟩ := hr (by simp); cases e
    subst hl
    obtain rfl := hc rfl
    refine wpList_append_own_none hgd s x 22 ho base 5 i0 1 Tryd.underlying22 hi0 v l.length _ hs hown hx (h v w ?_ (World.grownBy.refl w _))
    simpa using hown
  | some ad =>
    refine wpList_append_own w hgd s x 22 ho base 5 i0 _ 1 1 Tryd.underlying22 hi0 hz0 hz1 hz2 rfl (by decide) v l.length _ hs hown ad l'.length c (vals .u8 l') hx (by rw [vals_length]; omega) (fun j u hu => ?_) (vals_one _ _) (by unfold maxLen; omega) (by omega) hbase ?_
    · have hj : j < (vals .u8 l').length := (List.getElem?_eq_some_iff.1 hu).1
      rw [vals_length] at hj
      obtain ⟨ad', e, _, h3⟩ := hr (by omega)
      injection e with e
      subst e
      exact h3 j u hu
    · intro v' w' h1 h2 _
      rw [← vals_append] at h1
      rw [← List.length_append] at h1
      exact h v' w' h1 h2
theorem own_nil (w : World) (base : Nat) : Own w base (.slice none 0 0) [] := ⟨rfl, .inl ⟨rfl, rfl⟩⟩
/-- A row of one's own, as a slice that reads as its bytes. -/
theorem own_form {w : World} {base : Nat} {v : Value} {l : List Nat} (h : Own w base v l) :
    ∃ A c, v = .slice A l.length c ∧ l.length ≤ c ∧ c ≤ maxLen ∧ (A = none → c = 0) ∧ RdB w w.heap.size A l ∧ (∀ ad, A = some ad → ∃ p, ad = ⟨p, 0, none⟩ ∧ base ≤ p ∧ p < w.heap.size) := by
  have hcells := fun p => World.ownsRow.cells (g := p) h
  rcases h.2 with ⟨rfl, h0⟩ | ⟨p, cap, cur, rfl, hb, hg, hc, hm, hs, ht⟩
  · exact ⟨none, 0, by rw [h0], by omega, Nat.zero_le _, (fun _ => rfl), (fun hl => by omega), (fun ad e => by cases e)⟩
  · have hlt : p < w.heap.size := (show Blk w p 5 cur from hg).lt
    exact ⟨some ⟨p, 0, none⟩, cap, rfl, hc, hm, (fun e => by cases e), (fun _ => ⟨_, rfl, hlt, hcells p rfl⟩), (fun ad e => by injection e with e; exact ⟨p, e.symm, hb, hlt⟩)⟩
theorem own_below {w w' : World} {base : Nat} {v : Value} {l : List Nat} (h : Own w base v l) (hb : Below w.heap.size w w') : Own w' base v l := by
  obtain ⟨h1, h2⟩ := h
  refine ⟨h1, ?_⟩
  rcases h2 with h2 | ⟨g, cap, cur, hv, hg, hh, hr⟩
  · exact .inl h2
  · exact .inr ⟨g, cap, cur, hv, hg, (hb.block g (show Blk w g 5 cur from hh).lt).trans hh, hr⟩
theorem own_alloc {w : World} {base : Nat} {v : Value} {l : List Nat} (h : Own w base v l) (o : Obj) : Own (w.alloc o) base v l := own_below h ((Below.refl _ _).alloc (Nat.le_refl _) _)
theorem own_row {w : World} {base : Nat} {v : Value} {n : Nat} {xs : List Value} (h : w.ownsRow base 5 1 v n xs) : ∀ p, v.ownBlock = some p → base ≤ p := by
  intro p hp
  rcases h.2 with ⟨rfl, _⟩ | ⟨q, cap, cur, rfl, hb, _⟩
  · simp [Value.ownBlock] at hp
  · simp only [Value.ownBlock, Option.some.injEq] at hp; omega
/-- One byte in a new block. -/
theorem one_rd (w : World) (x : Nat) : RdB (w.alloc (.cells #[.int .u8 (x : Int)] 5)) (w.alloc (.cells #[.int .u8 (x : Int)] 5)).heap.size (some ⟨w.heap.size, 0, none⟩) [x] := fun _ => by
  refine ⟨_, rfl, by simp, fun j u hu => ?_⟩
  rw [Addr.add_mid, Nat.zero_add, (Blk.new w 5 #[.int .u8 (x : Int)]).cell]
  simpa [vals] using hu
/-- append(x, y): one byte, in a slice that was made for it. -/
theorem wpList_append_one {w : World} {ops : Array Oper} {rest : List Oper} {o : Oper} {a : Act} {Q : Exit → Act → World → Prop} (hgd : o.guard = none) (s x : Operand)
    (ho : o.op = .call { callee := .builtin .append, args := #[s, x], argTypes := #[22, 22] }) (base : Nat) (v : Value) (l : List Nat) (hs : a.eval s = v) (hown : Own w base v l)
    (y : Nat) (hx : a.eval x = .slice (some ⟨w.heap.size, 0, none⟩) 1 1) (hb : l.length + 1 ≤ 1000000) (hbase : base ≤ w.heap.size)
    (h : ∀ v' w', Own w' base v' (l ++ [y]) → Below base w w' → (∀ g t cs, Blk w g t cs → some g ≠ v.ownBlock → Blk w' g t cs) → wpList Tryd.prog ops Q rest (a.put o.dst v') w') :
    wpList Tryd.prog ops Q (o :: rest) a (w.alloc (.cells #[.int .u8 (y : Int)] 5)) := by
  refine wpList_append_bytes hgd s x ho base v l hs (own_alloc hown _) _ 1 [y] hx (fun e => by cases e) (one_rd w y) hb (by simp; omega) (fun v' w' h1 h2 => h v' w' h1 ?_ ?_)
  · exact ((Below.refl base w).alloc hbase _).grown h2 (by simp; omega) (fun k hk => own_row hown k hk)
  · intro g t cs hk hne
    exact Blk.grown (w := w.alloc _) ((Below.heap_alloc w _ g hk.lt).trans hk) h2 hne
/-! Bytes as strings. -/
/-- Bytes as a string. -/
def str (l : List Nat) : ByteArray := ⟨(l.map UInt8.ofNat).toArray⟩
theorem str_list (l : List Nat) : (str l).data.toList = l.map UInt8.ofNat := by simp [str]
theorem str_size (l : List Nat) : (str l).size = l.length := by
  show (str l).data.size = _
  simp [str]
/-- The bytes of a string. -/
def bytes (s : ByteArray) : List Nat := s.data.toList.map UInt8.toNat
theorem bytes_Bs (s : ByteArray) : Bs (bytes s) := fun x hx => by
  simp only [bytes, List.mem_map] at hx
  obtain ⟨u, _, rfl⟩ := hx
  exact u.toNat_lt
theorem str_bytes (s : ByteArray) : str (bytes s) = s := by
  cases s with
  | mk d =>
    unfold str bytes
    congr 1
    have h : d.toList.map (UInt8.ofNat ∘ UInt8.toNat) = d.toList := (List.map_congr_left fun x _ => by show UInt8.ofNat x.toNat = x; simp).trans (List.map_id _)
    rw [List.map_map, h]
theorem bytes_length (s : ByteArray) : (bytes s).length = s.size := by
  unfold bytes
  rw [List.length_map]
  rfl
theorem ofNat_inj {a b : Nat} (ha : a < 256) (hb : b < 256) (h : UInt8.ofNat a = UInt8.ofNat b) : a = b := by
  have := congrArg UInt8.toNat h
  simp only [UInt8.toNat_ofNat'] at this
  omega
theorem bytes_str {l : List Nat} (h : Bs l) : bytes (str l) = l := by
  unfold bytes
  rw [str_list, List.map_map]
  refine (List.map_congr_left fun x hx => ?_).trans (List.map_id l)
  show (UInt8.ofNat x).toNat = x
  simp only [UInt8.toNat_ofNat']
  exact Nat.mod_eq_of_lt (h x hx)
theorem str_inj {l m : List Nat} (hl : Bs l) (hm : Bs m) (h : str l = str m) : l = m := by
  rw [← bytes_str hl, ← bytes_str hm, h]
theorem cells_str {l : List Nat} (h : Bs l) : Lib.byteCells (l.map UInt8.ofNat) = vals .u8 l := by
  unfold Lib.byteCells vals
  rw [List.map_map]
  refine List.map_congr_left fun x hx => ?_
  show Value.int .u8 ((UInt8.ofNat x).toNat : Int) = _
  simp only [UInt8.toNat_ofNat']
  rw [Nat.mod_eq_of_lt (h x hx)]
theorem strOf_data (l : List Nat) : ∀ r : ByteArray, ((l.map fun n : Nat => (n : Int)).foldl (fun r n => r.push (UInt8.ofNat n.toNat)) r).data = r.data ++ (l.map UInt8.ofNat).toArray := by
  induction l with
  | nil => intro r; simp
  | cons x l ih =>
    intro r
    simp only [List.map_cons, List.foldl_cons, Int.toNat_natCast]
    rw [ih]
    simp [ByteArray.push]
theorem strOf_str (l : List Nat) : (l.map fun n : Nat => (n : Int)).foldl (fun r n => r.push (UInt8.ofNat n.toNat)) ByteArray.empty = str l := by
  have := strOf_data l ByteArray.empty
  cases hh : (l.map fun n : Nat => (n : Int)).foldl (fun r n => r.push (UInt8.ofNat n.toNat)) ByteArray.empty with
  | mk d =>
    rw [hh] at this
    unfold str
    congr 1
    simpa using this
theorem conv_bytes {w : World} {B : Nat} {A : Option Addr} {c : Nat} {l : List Nat} (h : RdB w B A l) : (convert 22 9 (.slice A l.length c)).run Tryd.prog w = .ok (.string (str l)) w := by
  rw [run_convert_bytes_string w 22 9 5 _ _ _ Tryd.underlying22 Tryd.underlying5 Tryd.underlying9]
  cases A with
  | none =>
    have hn : l = [] := by
      cases l with
      | nil => rfl
      | cons y r => obtain ⟨_, e, _⟩ := h (by simp); cases e
    subst hn
    rfl
  | some ad =>
    rw [← strOf_str]
    refine run_bytesToString w _ l.length c (l.map fun n : Nat => (n : Int)) ?_
    have := run_loadCells_list (P := Tryd.prog) w ad (vals .u8 l) (fun j u hu => by
      have hj' : j < (vals .u8 l).length := (List.getElem?_eq_some_iff.1 hu).1
      rw [vals_length] at hj'
      obtain ⟨ad', e, _, h3⟩ := h (by omega)
      injection e with e
      subst e
      exact h3 j u hu)
    rw [vals_length] at this
    rw [this]
    simp [vals]
theorem conv_own {w : World} {base : Nat} {v : Value} {l : List Nat} (h : Own w base v l) : (convert 22 9 v).run Tryd.prog w = .ok (.string (str l)) w := by
  obtain ⟨A, c, rfl, _, _, _, hr, _⟩ := own_form h
  exact conv_bytes hr
theorem wpList_convertRunW {P : Program} {ops : Array Oper} {rest : List Oper} {o : Oper} {a : Act} {w : World} {Q : Exit → Act → World → Prop} (s d : TypeId) (x : Operand) (ho : o.op = .convert s d x) (hw : Region.wanted o (yielded ops a.tmps) = true) (p v : Value) (hp : a.eval x = p)
    (hrun : (convert s d p).run P w = .ok v w) (h : wpList P ops Q rest (a.put o.dst v) w) : wpList P ops Q (o :: rest) a w :=
  wpList_step fun _ hK => by
    rw [if_pos hw]
    unfold Oper.wp execOp
    simp only [ho, hp, Sem.run_bind, hrun, Result.andThen_ok, Sem.run_pure]
    exact hK _ _ h
theorem conv_const (w : World) (g : Nat) (C : Array Value) (n c : Nat) (h : w.heap.size = g) :
    (convert 22 22 (.slice (some ⟨g, 0, none⟩) n c)).run Tryd.prog (w.alloc (.cells C 5)) = .ok (.slice (some ⟨g, 0, none⟩) n c) (w.alloc (.cells C 5 (C.size, C.size + 1))) := by
  subst h
  exact Lib.run_convert_bytes_const w 22 5 C n c Tryd.underlying22 Tryd.underlying5
/-- What a literal's row reads as. -/
theorem lit_rd (w : World) (l : List Nat) (C : Array Value) (hC : C = Vs .u8 l) (f : Nat × Nat) : RdB (w.alloc (.cells C 5 f)) (w.alloc (.cells C 5 f)).heap.size (some ⟨w.heap.size, 0, none⟩) l := fun _ => by
  subst hC
  refine ⟨_, rfl, by simp, fun j u hu => ?_⟩
  rw [Addr.add_mid, Nat.zero_add]
  have := heap_alloc_new w (Obj.cells (Vs .u8 l) 5 f)
  rw [cell_of_row _ _ _ _ _ _ this]
  simpa [Vs] using hu
end Go.Proofs.YtcpifencjmlhaaaDoor.B64
