/-
  Values in memory: what an address reads as; partsOf, fieldsOf and walk.
-/
import Derived.Test.YtkenananejgcpaaGreatDoorJWalk
namespace Go.Proofs.YtkenananejgcpaaGreatDoor.Jsn
open Go.RowKit Txt
mutual
/-- A value. -/
inductive V where
  | mk (kind : Int) (yes : Bool) (text : List UInt8) (list : List V) (mem : List M)
/-- A member. -/
inductive M where
  | mk (name : List UInt8) (v : V)
end
def V.kind : V → Int | .mk k _ _ _ _ => k
def V.yes : V → Bool | .mk _ y _ _ _ => y
def V.text : V → List UInt8 | .mk _ _ t _ _ => t
def V.list : V → List V | .mk _ _ _ l _ => l
def V.mem : V → List M | .mk _ _ _ _ m => m
def M.name : M → List UInt8 | .mk n _ => n
def M.val : M → V | .mk _ v => v
mutual
def V.size : V → Nat | .mk _ _ _ l m => 1 + sizeL l + sizeM m
def sizeL : List V → Nat | [] => 0 | v :: l => v.size + sizeL l
def sizeM : List M → Nat | [] => 0 | .mk _ v :: l => v.size + sizeM l
end
theorem V.size_eq (v : V) : v.size = 1 + sizeL v.list + sizeM v.mem := by cases v; simp [V.size, V.list, V.mem]
theorem sizeL_sum (l : List V) : sizeL l = (l.map V.size).sum := by
  induction l with
  | nil => simp [sizeL]
  | cons v l ih => simp [sizeL, ih]
theorem sizeM_sum (l : List M) : sizeM l = (l.map (fun m => m.val.size)).sum := by
  induction l with
  | nil => simp [sizeM]
  | cons m l ih => cases m; simp [sizeM, M.val, ih]
theorem V.size_pos (v : V) : 0 < v.size := by rw [v.size_eq]; omega
theorem sum_mem {α : Type} (f : α → Nat) (l : List α) {x : α} (h : x ∈ l) : f x ≤ (l.map f).sum := by
  induction l with
  | nil => cases h
  | cons y l ih =>
    simp only [List.map_cons, List.sum_cons]
    rcases List.mem_cons.1 h with rfl | h
    · omega
    · have := ih h; omega
theorem V.lt_list {v x : V} (h : x ∈ v.list) : x.size < v.size := by
  have := sum_mem V.size v.list h
  rw [v.size_eq, sizeL_sum]; omega
theorem V.lt_mem {v : V} {x : M} (h : x ∈ v.mem) : x.val.size < v.size := by
  have := sum_mem (fun m : M => m.val.size) v.mem h
  rw [v.size_eq, sizeM_sum]; omega
theorem sum_len {α : Type} (f : α → Nat) (hf : ∀ x, 0 < f x) (l : List α) : l.length ≤ (l.map f).sum := by
  induction l with
  | nil => simp
  | cons y l ih => have := hf y; simp; omega
/-- The values inside, by kind; all of them. -/
def V.kids (all : Bool) (v : V) : List V := (if all || v.kind == 5 then v.list else []) ++ (if all || v.kind == 6 then v.mem.map M.val else [])
theorem V.kids_size (all : Bool) (v : V) : ((v.kids all).map V.size).sum + 1 ≤ v.size := by
  rw [v.size_eq, sizeL_sum, sizeM_sum]
  unfold V.kids
  rw [List.map_append, List.sum_append]
  have : ((v.mem.map M.val).map V.size).sum = (v.mem.map (fun m => m.val.size)).sum := by rw [List.map_map]; rfl
  split <;> split <;> (try rw [this]) <;> (try simp only [List.map_nil, List.sum_nil]) <;> omega
/-- What an address reads as. -/
inductive Reads (w : World) : Addr → V → Prop
  | mk (a : Addr) (k : Int) (y : Bool) (t : List UInt8) (l : List V) (m : List M) (A : Option Addr) (ca : Nat) (B : Option Addr) (cb : Nat)
    (c0 : w.cell? a = some (.int .i64 k)) (c1 : w.cell? (a.add 1) = some (.bool y)) (c2 : w.cell? (a.add 2) = some (.string (mk t)))
    (c3 : w.cell? (a.add 3) = some (.slice A (l.length : Nat) ca)) (c4 : w.cell? (a.add 4) = some (.slice B (m.length : Nat) cb))
    (hA : 0 < l.length → A.isSome = true) (hB : 0 < m.length → B.isSome = true)
    (hl : ∀ i x, l[i]? = some x → Reads w ((A.getD default).add (i * 5)) x)
    (hn : ∀ i x, m[i]? = some x → w.cell? ((B.getD default).add (i * 6)) = some (.string (mk x.name)))
    (hm : ∀ i x, m[i]? = some x → Reads w ((B.getD default).add (i * 6 + 1)) x.val) : Reads w a (.mk k y t l m)
theorem Reads.kept {w w' : World} {B : Nat} (hb : Below B w w') (hB : w.heap.size ≤ B) {a : Addr} {v : V} (h : Reads w a v) : Reads w' a v := by
  have hc : ∀ {a : Addr} {u : Value}, w.cell? a = some u → w'.cell? a = some u := fun {a u} hu => (hb.cell (Nat.lt_of_lt_of_le (lt_cell hu) hB)).trans hu
  induction h with
  | mk a k y t l m A ca B cb c0 c1 c2 c3 c4 hA hB hl hn hm ihl ihm =>
    exact .mk a k y t l m A ca B cb (hc c0) (hc c1) (hc c2) (hc c3) (hc c4) hA hB ihl (fun i x hx => hc (hn i x hx)) ihm
theorem Reads.fields {w : World} {a : Addr} {v : V} (h : Reads w a v) : ∃ A ca B cb, Fields a w v.kind A v.list.length ca B v.mem.length cb ∧ (0 < v.list.length → A.isSome = true) ∧ (0 < v.mem.length → B.isSome = true) ∧
    (∀ i x, v.list[i]? = some x → Reads w ((A.getD default).add (i * 5)) x) ∧ (∀ i x, v.mem[i]? = some x → Reads w ((B.getD default).add (i * 6 + 1)) x.val) := by
  cases h with
  | mk a k y t l m A ca B cb c0 c1 c2 c3 c4 hA hB hl hn hm => exact ⟨A, ca, B, cb, ⟨c0, c3, c4⟩, hA, hB, hl, hm⟩
set_option maxRecDepth 100000 in
set_option maxHeartbeats 1000000 in
theorem parts_ins : Ins false 28 := by
  intro x W k A na ca B nb cb h
  have c0 := h.kind
  have c3 : W.cell? ⟨x.block, x.off + 3, none⟩ = some (.slice A na ca) := h.list
  have c4 : W.cell? ⟨x.block, x.off + 4, none⟩ = some (.slice B nb cb) := h.mem
  clear h
  by_cases h5 : k = 5
  · subst h5
    go_enter Tryz.func28, Tryz.ntmps28
    go_wp2
    go_ret2
    exact ⟨⟨⟨rfl, rfl, rfl, Nat.le_refl _, fun _ _ _ => rfl⟩, rfl⟩, A, ca, none, 0, by simp [fromList, fromMem], fun _ => rfl, fun h => by simp [fromMem] at h⟩
  · have e5 : (k == 5) = false := by rw [beq_eq_false_iff_ne]; exact h5
    by_cases h6 : k = 6
    · subst h6
      go_enter Tryz.func28, Tryz.ntmps28
      go_wp2
      go_region
      go_wp2
      go_ret2
      exact ⟨⟨⟨rfl, rfl, rfl, Nat.le_refl _, fun _ _ _ => rfl⟩, rfl⟩, none, 0, B, cb, by simp [fromList, fromMem], fun h => by simp [fromList] at h, fun _ => rfl⟩
    · have e6 : (k == 6) = false := by rw [beq_eq_false_iff_ne]; exact h6
      go_enter Tryz.func28, Tryz.ntmps28
      go_wp2
      go_ret2
      exact ⟨⟨⟨rfl, rfl, rfl, Nat.le_refl _, fun _ _ _ => rfl⟩, rfl⟩, none, 0, none, 0, by simp [fromList, fromMem, e5, e6], fun h => by simp [fromList, e5] at h, fun h => by simp [fromMem, e6] at h⟩
set_option maxRecDepth 100000 in
set_option maxHeartbeats 1000000 in
theorem fields_ins : Ins true 51 := by
  intro x W k A na ca B nb cb h
  have c3 : W.cell? ⟨x.block, x.off + 3, none⟩ = some (.slice A na ca) := h.list
  have c4 : W.cell? ⟨x.block, x.off + 4, none⟩ = some (.slice B nb cb) := h.mem
  clear h
  go_enter Tryz.func51, Tryz.ntmps51
  go_wp2
  go_region
  go_wp2
  go_ret2
  exact ⟨⟨⟨rfl, rfl, rfl, Nat.le_refl _, fun _ _ _ => rfl⟩, rfl⟩, A, ca, B, cb, by simp [fromList, fromMem], fun _ => rfl, fun _ => rfl⟩
set_option maxRecDepth 100000 in
set_option maxHeartbeats 1000000 in
/-- walk: it boxes its arguments, and hands the function back. -/
theorem walk_any (p : Addr) (fi : Nat) (w : World) : Calls Tryz.prog 27 #[.pointer (some p), .func (.func fi) #[] #[]] w fun e w' =>
    e = .returned (.func (.func 46) #[] #[.pointer (some ⟨w.heap.size, 0, none⟩), .pointer (some ⟨w.heap.size + 1, 0, none⟩)]) ∧ w' = (w.alloc (.cells #[.pointer (some p)] 65)).alloc (.cells #[.func (.func fi) #[] #[]] 66) := by
  have hmf : ∀ (fn : Fn) (first cap : Array Value) (w : World), (Instr.makeFunc fn first cap).run Tryz.prog w = .ok (.func fn first cap) w := fun _ _ _ _ => rfl
  go_enter Tryz.func27, Tryz.ntmps27
  go_wp2
  go_ret
  exact ⟨rfl, rfl⟩
end Go.Proofs.YtkenananejgcpaaGreatDoor.Jsn
