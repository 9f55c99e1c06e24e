/-
  Words for memory that the walks of package text share: strings as lists of bytes, rows of one's own, builders, pairs that a slice reads as.
-/
import Derived.Test.YtkenananejgcpaaGreatDoorTMath2
import Derived.Test.YtkenananejgcpaaGreatDoorTShelf
import Derived.WalkKit
import Derived.WalkSpells
import Derived.WalkLawsBesides
import Derived.Lib.Hide
import Derived.Deep.Draws
import Derived.Laws.Rows
import Derived.Laws.Tables
import Derived.Laws.Strings2
import Derived.Laws.Strings3
import Derived.Deep.MidRow
import Derived.Lib.SlBytesConst
import Derived.Laws.AppendOwnNone
import Derived.Lib.UnsafeStr
import Derived.Lib.Bytealg
namespace Go.Proofs.YtkenananejgcpaaGreatDoor.Txt
open Go.RowKit
theorem ret_num {k : IntKind} {a b : Int} (h : a = b) : Ending.returned (.int k a) = .returned (.int k b) := by rw [h]
theorem ret_bool {a b : Bool} (h : a = b) : Ending.returned (.bool a) = .returned (.bool b) := by rw [h]
/-- Bytes as a string. -/
def mk (l : List UInt8) : ByteArray := ⟨l.toArray⟩
theorem mk_size (l : List UInt8) : (mk l).size = l.length := by
  show (mk l).data.size = _
  simp [mk]
theorem mk_toList (l : List UInt8) : (mk l).toList = l := ByteArray.toList_mk l
theorem mk_data (l : List UInt8) : (mk l).data.toList = l := by simp [mk]
theorem of_mk (s : ByteArray) : mk s.data.toList = s := by cases s; rfl
theorem mk_inj {l m : List UInt8} (h : mk l = mk m) : l = m := by rw [← mk_data l, ← mk_data m, h]
theorem get_mk (l : List UInt8) (i : Nat) (h : i < l.length) : (mk l)[i]'(by rw [mk_size]; exact h) = l.getD i 0 := by
  show (mk l).data[i]'_ = _
  simp [mk, List.getD_eq_getElem?_getD, List.getElem?_eq_getElem h]
theorem run_idx (w : World) (l : List UInt8) (k : IntKind) (i : Nat) (hi : i < l.length) : (Instr.index 9 (.string (mk l)) (.int k (i : Int))).run Tryz.prog w = .ok (.int .u8 ((l.getD i 0).toNat : Nat)) w := by
  rw [run_index_string w 9 (mk l) k i Tryz.underlying9]
  have hs := mk_size l
  rw [dif_pos ⟨by omega, by omega⟩]
  congr 2
  rw [← get_mk l i hi]
  rfl
theorem run_from (w : World) (l : List UInt8) (k : IntKind) (a : Nat) (ha : a ≤ l.length) : (Instr.slice 9 (.string (mk l)) (some (.int k (a : Int))) none none).run Tryz.prog w = .ok (.string (mk (l.drop a))) w := by
  have hs := mk_size l
  rw [run_slice_string_l w 9 (mk l) Tryz.underlying9 k a (by omega) (by omega), hs, Int.toNat_natCast]
  have := ByteArray.extract_mk l a l.length
  rw [List.take_of_length_le (by rw [List.length_drop]; omega)] at this
  unfold mk
  rw [this]
theorem run_part (w : World) (l : List UInt8) (k k' : IntKind) (a b : Nat) (hab : a ≤ b) (hb : b ≤ l.length) : (Instr.slice 9 (.string (mk l)) (some (.int k (a : Int))) (some (.int k' (b : Int))) none).run Tryz.prog w = .ok (.string (mk ((l.drop a).take (b - a)))) w := by
  have hs := mk_size l
  rw [run_slice_string w 9 (mk l) k k' a b Tryz.underlying9 (by omega) (by omega) (by omega), Int.toNat_natCast, Int.toNat_natCast]
  have := ByteArray.extract_mk l a b
  unfold mk
  rw [this]
theorem decodeGo_mk (l : List UInt8) (h : l ≠ []) : Lib.decodeGo (mk l) = dec l := by
  have h0 : 0 < l.length := List.length_pos_iff.2 h
  have hg : ∀ i, (mk l).get! i = l.getD i 0 := fun i => by
    show (mk l).data[i]! = _
    simp [mk, List.getD_eq_getElem?_getD]
    rfl
  unfold Lib.decodeGo dec
  rw [if_neg (by rw [mk_size]; omega), Lib.decode_at, mk_size, hg, hg, hg, hg]
  simp
/-! Blocks. -/
/-- Block g holds just these cells, none of them frozen. -/
def Blk (w : World) (g : Nat) (t : TypeId) (cs : Array Value) : Prop := w.heap[g]? = some (.cells cs t (0, 0))
section
variable {w w' : World} {g : Nat} {t : TypeId} {cs : Array Value}
theorem Blk.lt (h : Blk w g t cs) : g < w.heap.size := by
  by_cases hlt : g < w.heap.size
  · exact hlt
  · unfold Blk at h; rw [Array.getElem?_eq_none (by omega)] at h; cases h
theorem Blk.cell (h : Blk w g t cs) (i : Nat) : w.cell? ⟨g, i, none⟩ = cs[i]? := cell_of_row w g i cs t (0, 0) h
theorem Blk.new (w : World) (t : TypeId) (cs : Array Value) : Blk (w.alloc (.cells cs t)) w.heap.size t cs := heap_alloc_new w _
theorem Blk.below {B : Nat} (h : Blk w g t cs) (hb : Below B w w') (hg : g < B) : Blk w' g t cs := (hb.block g hg).trans h
theorem Blk.grown {row : Option Nat} (h : Blk w g t cs) (hb : w.grownBy w' row) (hg : some g ≠ row) : Blk w' g t cs := (hb.block g h.lt hg).trans h
end
theorem block_add (a : Addr) (n : Nat) : (a.add n).block = a.block := by unfold Addr.add; split <;> rfl
theorem add_add (a : Addr) (i j : Nat) : (a.add i).add j = a.add (i + j) := by
  unfold Addr.add
  by_cases hi : i = 0 <;> by_cases hj : j = 0 <;> simp [hi, hj, Nat.add_assoc]
/-! Rows of one's own. -/
theorem row_below {w w' : World} {base : Nat} {e : TypeId} {size n : Nat} {v : Value} {xs : List Value} (h : w.ownsRow base e size v n xs) (hb : Below w.heap.size w w') : w'.ownsRow base e size v n xs := by
  obtain ⟨h1, h2⟩ := h
  refine ⟨h1, ?_⟩
  rcases h2 with h2 | ⟨g, cap, cur, hv, hg, hh, hr⟩
  · exact .inl h2
  · exact .inr ⟨g, cap, cur, hv, hg, (hb.block g (show Blk w g e cur from hh).lt).trans hh, hr⟩
theorem row_base {w : World} {base : Nat} {e : TypeId} {size n : Nat} {v : Value} {xs : List Value} (h : w.ownsRow base e size v n xs) : ∀ p, v.ownBlock = some p → base ≤ p := by
  intro p hp
  rcases h.2 with ⟨rfl, _⟩ | ⟨q, cap, cur, rfl, hb, _⟩
  · simp [Value.ownBlock] at hp
  · simp only [Value.ownBlock, Option.some.injEq] at hp; omega
/-- A slice at A, whose cells are these, and which lies below block B. -/
def Rd (w : World) (B : Nat) (A : Option Addr) (xs : List Value) : Prop := 0 < xs.length → ∃ ad, A = some ad ∧ ad.block < B ∧ ∀ j u, xs[j]? = some u → w.cell? (ad.add j) = some u
theorem Rd.below {w w' : World} {B : Nat} {A : Option Addr} {l : List Value} (h : Rd w B A l) (hb : Below B w w') : Rd w' B A l := fun hl => by
  obtain ⟨ad, e, h1, h2⟩ := h hl
  exact ⟨ad, e, h1, fun j u hu => (hb.cell (by rw [block_add]; exact h1)).trans (h2 j u hu)⟩
theorem Rd.more {w : World} {B B' : Nat} {A : Option Addr} {l : List Value} (h : Rd w B A l) (hB : B ≤ B') : Rd w B' A l := fun hl => by
  obtain ⟨ad, e, h1, h2⟩ := h hl
  exact ⟨ad, e, by omega, h2⟩
theorem Rd.nil (w : World) (B : Nat) (A : Option Addr) : Rd w B A [] := fun h => absurd h (by decide)
/-- A row of one's own, as a slice that reads as its cells. -/
theorem row_form {w : World} {base : Nat} {e : TypeId} {size n : Nat} {v : Value} {xs : List Value} (hn : xs.length = n * size) (h : w.ownsRow base e size v n xs) :
    ∃ A c, v = .slice A n c ∧ n ≤ c ∧ c ≤ maxLen ∧ (A = none → c = 0) ∧ Rd w w.heap.size A xs ∧ (∀ ad, A = some ad → ∃ p, ad = ⟨p, 0, none⟩ ∧ base ≤ p ∧ p < w.heap.size) := by
  have hcells := fun p => World.ownsRow.cells (g := p) h
  rcases h.2 with ⟨rfl, h0⟩ | ⟨p, cap, cur, rfl, hb, hg, hc, hm, hs, ht⟩
  · exact ⟨none, 0, by rw [h0], by omega, Nat.zero_le _, (fun _ => rfl), (fun hl => by rw [hn, h0] at hl; omega), (fun ad e => by cases e)⟩
  · have hlt : p < w.heap.size := (show Blk w p e cur from hg).lt
    exact ⟨some ⟨p, 0, none⟩, cap, rfl, hc, hm, (fun e => by cases e), (fun _ => ⟨_, rfl, hlt, hcells p rfl⟩), (fun ad e => by injection e with e; exact ⟨p, e.symm, hb, hlt⟩)⟩
/-- append(x, y): one element, in a slice that was made for it. -/
theorem wpList_append_elem {w : World} {ops : Array Oper} {rest : List Oper} {o : Oper} {a : Act} {Q : Exit → Act → World → Prop} (hgd : o.guard = none) (s x : Operand) (t e : TypeId)
    (ho : o.op = .call { callee := .builtin .append, args := #[s, x], argTypes := #[t, t] }) (base size bytes : Nat) (z : Value) (ht : Tryz.prog.underlying t = some (.slice e)) (hinfo : (Tryz.prog.info? e).map (fun i => (i.zero, i.size, i.bytes)) = some (some z, size, bytes)) (hzs : z.cells.size = size) (hsz : 0 < size) (hby : bytes ≤ 1000)
    (v : Value) (n : Nat) (xs els : List Value) (hs : a.eval s = v) (hown : w.ownsRow base e size v n xs) (hel : els.length = size) (h1 : ∀ u ∈ els, u.oneCell' = true)
    (hx : a.eval x = .slice (some ⟨w.heap.size, 0, none⟩) 1 1) (hb : n + 1 ≤ 1000000) (hbase : base ≤ w.heap.size) (C : Array Value) (hC : C = els.toArray)
    (h : ∀ v' w', w'.ownsRow base e size v' (n + 1) (xs ++ els) → Below base w w' → (∀ g t cs, Blk w g t cs → some g ≠ v.ownBlock → Blk w' g t cs) → wpList Tryz.prog ops Q rest (a.put o.dst v') w') :
    wpList Tryz.prog ops Q (o :: rest) a (w.alloc (.cells C e)) := by
  subst hC
  obtain ⟨i0, hi0, hz0, hz1, hz2⟩ := info_parts hinfo
  have hown' : (w.alloc (.cells els.toArray e)).ownsRow base e size v n xs := row_below hown ((Below.refl _ _).alloc (Nat.le_refl _) _)
  refine wpList_append_own _ hgd s x t ho base e i0 z size bytes ht hi0 hz0 hz1 hz2 hzs hsz v n xs hs hown' _ 1 1 els hx (by rw [hel]; omega) (fun j u hu => ?_) h1 (by unfold maxLen; omega) ?_ (by simp; omega) (fun v' w' h2 h3 _ => h v' w' h2 ?_ ?_)
  · rw [Addr.add_mid, Nat.zero_add, (Blk.new w e els.toArray).cell]
    simpa using hu
  · have : (n + 1) * bytes ≤ 1000000 * 1000 := Nat.mul_le_mul hb hby
    omega
  · exact ((Below.refl base w).alloc hbase _).grown h3 (by simp; omega) (fun k hk => row_base hown k hk)
  · intro g t cs hk hne
    exact Blk.grown (w := w.alloc _) ((Below.heap_alloc w _ g hk.lt).trans hk) h3 hne
/-! The bytes of a row of one's own as a string. -/
theorem info5 : (Tryz.prog.info? 5).map (fun i => (i.zero, i.size, i.bytes)) = some (some (.int .u8 0), 1, 1) := by kernel_rfl
theorem info9 : (Tryz.prog.info? 9).map (fun i => (i.zero, i.size, i.bytes)) = some (some (.string ⟨#[]⟩), 1, 16) := by kernel_rfl
abbrev Own (w : World) (base : Nat) (v : Value) (l : List UInt8) : Prop := w.ownsRow base 5 1 v l.length (Lib.byteCells l)
theorem byteCells_append (l m : List UInt8) : Lib.byteCells (l ++ m) = Lib.byteCells l ++ Lib.byteCells m := by simp [Lib.byteCells]
theorem strOf_data (l : List UInt8) : ∀ r : ByteArray, ((l.map fun n : UInt8 => (n.toNat : Int)).foldl (fun r n => r.push (UInt8.ofNat n.toNat)) r).data = r.data ++ l.toArray := by
  induction l with
  | nil => intro r; simp
  | cons x l ih =>
    intro r
    simp only [List.map_cons, List.foldl_cons, Int.toNat_natCast]
    rw [ih]
    simp [ByteArray.push]
theorem strOf_mk (l : List UInt8) : (l.map fun n : UInt8 => (n.toNat : Int)).foldl (fun r n => r.push (UInt8.ofNat n.toNat)) ByteArray.empty = mk l := by
  have := strOf_data l ByteArray.empty
  cases hh : (l.map fun n : UInt8 => (n.toNat : Int)).foldl (fun r n => r.push (UInt8.ofNat n.toNat)) ByteArray.empty with
  | mk d =>
    rw [hh] at this
    unfold mk
    congr 1
    simpa using this
theorem conv_own {w : World} {base : Nat} {v : Value} {l : List UInt8} (h : Own w base v l) : (convert 51 9 v).run Tryz.prog w = .ok (.string (mk l)) w := by
  obtain ⟨A, c, rfl, _, _, _, hr, _⟩ := row_form (by rw [Lib.byteCells_length]; omega) h
  rw [run_convert_bytes_string w 51 9 5 _ _ _ Tryz.underlying51 Tryz.underlying5 Tryz.underlying9]
  cases A with
  | none =>
    have hn : l = [] := by
      cases l with
      | nil => rfl
      | cons y r => obtain ⟨_, e, _⟩ := hr (by simp [Lib.byteCells]); cases e
    subst hn
    rfl
  | some ad =>
    rw [← strOf_mk]
    refine run_bytesToString w _ l.length c (l.map fun n : UInt8 => (n.toNat : Int)) ?_
    have := run_loadCells_list (P := Tryz.prog) w ad (Lib.byteCells l) (fun j u hu => by
      have hj' : j < (Lib.byteCells l).length := (List.getElem?_eq_some_iff.1 hu).1
      obtain ⟨ad', e, _, h3⟩ := hr (by omega)
      injection e with e
      subst e
      exact h3 j u hu)
    rw [Lib.byteCells_length] at this
    rw [this]
    simp [Lib.byteCells]
/-- A builder that the call made holds these bytes. -/
abbrev Bld (w : World) (B b : Nat) (l : List UInt8) : Prop := Lib.IsBuilder 99 5 B b (Lib.byteCells l) w
/-- WriteByte onto a builder. -/
theorem write_any (B b : Nat) (l : List UInt8) (x : UInt8) (w : World) (h : Bld w B b l) (hlen : l.length ≤ 100000000) (hBw : B ≤ w.heap.size) :
    Calls Tryz.prog 81 #[.pointer (some ⟨b, 0, none⟩), .int .u8 (x.toNat : Nat)] w fun e w' => e = .returned .nilIface ∧ Bld w' B b (l ++ [x]) ∧ Below B w w' := by
  refine (writeByte_any B b (Lib.byteCells l) _ w h (by rw [Lib.byteCells_length]; omega) hBw).mono ?_
  rintro e w' ⟨rfl, h1, h2⟩
  refine ⟨rfl, ?_, h2⟩
  unfold Bld
  rw [byteCells_append]
  exact h1
theorem taken_any (B b : Nat) (l : List UInt8) (w : World) (h : Bld w B b l) (hBw : B ≤ w.heap.size) :
    Calls Tryz.prog 62 #[.pointer (some ⟨b, 0, none⟩)] w fun e w' => e = .returned (.string (mk l)) ∧ Below B w w' := string_any B b l w h hBw
/-- The tables of unicode/utf8. -/
abbrev Tabs (w : World) : Prop := Lib.Utf8Tabs 2 3 w
theorem Tabs.below {w w' : World} {B : Nat} (h : Tabs w) (hb : Below B w w') (hB : 3 + 1 ≤ B) : Tabs w' :=
  ⟨fun c hc => (hb.cell (by show 2 < B; omega)).trans (h.1 c hc), fun i hi => ⟨(hb.cell (by show 3 < B; omega)).trans (h.2 i hi).1, (hb.cell (by show 3 < B; omega)).trans (h.2 i hi).2⟩⟩
end Go.Proofs.YtkenananejgcpaaGreatDoor.Txt
