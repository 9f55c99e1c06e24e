/-
  The list that walk keeps, where the values in it are only read.
-/
import Derived.Test.YtkenananejgcpaaGreatDoorJMem
namespace Go.Proofs.YtkenananejgcpaaGreatDoor.Jsn
open Go.RowKit Txt
/-- The values that stand on the list. -/
structure Stk (W0 : World) (T : V) (m : Nat) (st : List It) (ss : List (It × V)) : Prop where
  items : st = ss.map Prod.fst
  total : m = (ss.map (fun s => s.2.size)).sum
  le : m ≤ T.size
  reads : ∀ s ∈ ss, Reads W0 s.1.1 s.2 ∧ s.1.2 + s.2.size ≤ 1 + T.size ∧ 1 ≤ s.1.2
theorem Stk.start {W0 : World} {T : V} {p : Addr} (h : Reads W0 p T) : Stk W0 T T.size [(p, 1)] [((p, 1), T)] :=
  ⟨rfl, by simp, Nat.le_refl _, fun s hs => by rw [List.mem_singleton.1 hs]; exact ⟨h, Nat.le_refl _, Nat.le_refl _⟩⟩
def kidsV (A B : Option Addr) (d : Nat) (all : Bool) (t : V) : List (It × V) :=
  (if all || t.kind == 5 then t.list.zipIdx.map (fun p => (((A.getD default).add (p.2 * 5), d), p.1)) else []) ++
  (if all || t.kind == 6 then t.mem.zipIdx.map (fun p => (((B.getD default).add (p.2 * 6 + 1), d), p.1.val)) else [])
theorem kidsV_fst (A B : Option Addr) (d : Nat) (all : Bool) (t : V) : (kidsV A B d all t).map Prod.fst = kidsL A (fromList all t.kind t.list.length) d ++ kidsM B (fromMem all t.kind t.mem.length) d := by
  unfold kidsV fromList fromMem kidsL kidsM
  rw [List.map_append]
  congr 1
  · split
    · apply List.ext_getElem?
      intro i
      simp
      by_cases h : i < t.list.length <;> simp [h]
    · rfl
  · split
    · apply List.ext_getElem?
      intro i
      simp
      by_cases h : i < t.mem.length <;> simp [h]
    · rfl
theorem kidsV_snd (A B : Option Addr) (d : Nat) (all : Bool) (t : V) : (kidsV A B d all t).map Prod.snd = t.kids all := by
  unfold kidsV V.kids
  rw [List.map_append]
  congr 1
  · split
    · apply List.ext_getElem?
      intro i
      by_cases h : i < t.list.length <;> simp [h]
    · rfl
  · split
    · apply List.ext_getElem?
      intro i
      by_cases h : i < t.mem.length <;> simp [h]
    · rfl
theorem kidsV_deep (A B : Option Addr) (d : Nat) (all : Bool) (t : V) : ∀ s ∈ kidsV A B d all t, s.1.2 = d := by
  intro s hs
  unfold kidsV at hs
  rcases List.mem_append.1 hs with h | h
  · split at h
    · obtain ⟨p, _, rfl⟩ := List.mem_map.1 h; rfl
    · cases h
  · split at h
    · obtain ⟨p, _, rfl⟩ := List.mem_map.1 h; rfl
    · cases h
theorem V.mem_kids {all : Bool} {v x : V} (h : x ∈ v.kids all) : x.size < v.size := by
  have := sum_mem V.size _ h
  have := v.kids_size all
  omega
/-- One is taken off, and those inside it are put on. -/
theorem Stk.step {W0 : World} {T : V} {m : Nat} {st : List It} {x : It} {ss : List (It × V)} (h : Stk W0 T m (st ++ [x]) ss) (all : Bool) :
    ∃ ss' t, ss = ss' ++ [(x, t)] ∧ Reads W0 x.1 t ∧ x.2 + t.size ≤ 1 + T.size ∧ 1 ≤ x.2 ∧ ∃ A ca B cb, Fields x.1 W0 t.kind A t.list.length ca B t.mem.length cb ∧ (0 < t.list.length → A.isSome = true) ∧ (0 < t.mem.length → B.isSome = true) ∧
      t.list.length + t.mem.length + st.length ≤ T.size ∧ ∃ m', m' < m ∧ Stk W0 T m' (st ++ kidsL A (fromList all t.kind t.list.length) (x.2 + 1) ++ kidsM B (fromMem all t.kind t.mem.length) (x.2 + 1)) (ss' ++ kidsV A B (x.2 + 1) all t) := by
  rcases List.eq_nil_or_concat ss with rfl | ⟨ss', s, rfl⟩
  · have := h.items; simp at this
  · rw [List.concat_eq_append] at h ⊢
    have e := h.items
    rw [List.map_append] at e
    obtain ⟨e1, e2⟩ := List.append_inj' e rfl
    simp only [List.map_cons, List.map_nil, List.cons.injEq, and_true] at e2
    obtain ⟨x', t⟩ := s
    simp only at e2
    subst e2
    obtain ⟨hr, hd, h1⟩ := h.reads (x, t) (by simp)
    change x.2 + t.size ≤ 1 + T.size at hd
    change 1 ≤ x.2 at h1
    obtain ⟨A, ca, B, cb, hf, hA, hB, hl, hm⟩ := hr.fields
    have hmm := h.total
    rw [List.map_append, List.sum_append] at hmm
    simp only [List.map_cons, List.map_nil, List.sum_cons, List.sum_nil, Nat.add_zero] at hmm
    have hle := h.le
    have hts := t.size_eq
    have l1 := sum_len V.size V.size_pos t.list
    have l2 := sum_len (fun m : M => m.val.size) (fun m => m.val.size_pos) t.mem
    have l3 := sum_len (fun s : It × V => s.2.size) (fun s => s.2.size_pos) ss'
    rw [sizeL_sum, sizeM_sum] at hts
    have hlen : st.length = ss'.length := by rw [e1]; simp
    have hks := t.kids_size all
    have hsum : ((kidsV A B (x.2 + 1) all t).map (fun s => s.2.size)).sum = ((t.kids all).map V.size).sum := by
      rw [← kidsV_snd A B (x.2 + 1) all t, List.map_map]; rfl
    refine ⟨ss', t, rfl, hr, hd, h1, A, ca, B, cb, hf, hA, hB, by omega, ((ss' ++ kidsV A B (x.2 + 1) all t).map (fun s => s.2.size)).sum, ?_, ?_, rfl, ?_, ?_⟩
    · rw [List.map_append, List.sum_append, hsum]; omega
    · rw [List.map_append, kidsV_fst, ← e1, List.append_assoc]
    · rw [List.map_append, List.sum_append, hsum]; omega
    · intro s hs
      rcases List.mem_append.1 hs with hs | hs
      · exact h.reads s (List.mem_append.2 (.inl hs))
      · have hd' := kidsV_deep _ _ _ _ _ s hs
        have hsz : s.2.size < t.size := V.mem_kids (all := all) (by rw [← kidsV_snd A B (x.2 + 1) all t]; exact List.mem_map.2 ⟨s, hs, rfl⟩)
        refine ⟨?_, by omega, by omega⟩
        unfold kidsV at hs
        rcases List.mem_append.1 hs with hs | hs
        · split at hs
          · obtain ⟨p, hp, rfl⟩ := List.mem_map.1 hs
            exact hl p.2 p.1 (by rw [List.mem_zipIdx_iff_getElem?] at hp; exact hp)
          · cases hs
        · split at hs
          · obtain ⟨p, hp, rfl⟩ := List.mem_map.1 hs
            exact hm p.2 p.1 (by rw [List.mem_zipIdx_iff_getElem?] at hp; exact hp)
          · cases hs
theorem blk_set {w : World} {g : Nat} {t : TypeId} {cs : Array Value} (h : Blk w g t cs) (i : Nat) (v : Value) : Blk (w.setCell ⟨g, i, none⟩ v) g t (cs.setIfInBounds i v) := by
  unfold Blk at *
  simp [World.setCell, Array.getElem?_modify, h]
theorem Fields.kept {x : Addr} {W W' : World} {k : Int} {A : Option Addr} {na ca : Nat} {B : Option Addr} {nb cb N : Nat} (h : Fields x W k A na ca B nb cb) (hb : Below N W W') (hN : W.heap.size ≤ N) : Fields x W' k A na ca B nb cb := by
  have hc : ∀ {a : Addr} {u : Value}, W.cell? a = some u → W'.cell? a = some u := fun {a u} hu => (hb.cell (Nat.lt_of_lt_of_le (lt_cell hu) hN)).trans hu
  exact ⟨hc h.kind, hc h.list, hc h.mem⟩
/-- A value handed over. -/
def Holds (w : World) (val : Value) (v : V) : Prop := ∃ A ca B cb, val = .agg #[.int .i64 v.kind, .bool v.yes, .string (mk v.text), .slice A (v.list.length : Nat) ca, .slice B (v.mem.length : Nat) cb] ∧
  (0 < v.list.length → A.isSome = true) ∧ (0 < v.mem.length → B.isSome = true) ∧
  (∀ i x, v.list[i]? = some x → Reads w ((A.getD default).add (i * 5)) x) ∧ (∀ i x, v.mem[i]? = some x → w.cell? ((B.getD default).add (i * 6)) = some (.string (mk x.name))) ∧ (∀ i x, v.mem[i]? = some x → Reads w ((B.getD default).add (i * 6 + 1)) x.val)
theorem Holds.kept {w w' : World} {B : Nat} (hb : Below B w w') (hB : w.heap.size ≤ B) {val : Value} {v : V} (h : Holds w val v) : Holds w' val v := by
  obtain ⟨A, ca, B', cb, e, h1, h2, h3, h4, h5⟩ := h
  exact ⟨A, ca, B', cb, e, h1, h2, fun i x hx => (h3 i x hx).kept hb hB, fun i x hx => (hb.cell (Nat.lt_of_lt_of_le (lt_cell (h4 i x hx)) hB)).trans (h4 i x hx), fun i x hx => (h5 i x hx).kept hb hB⟩
theorem Holds.box {w : World} {v : V} {A : Option Addr} {ca : Nat} {B : Option Addr} {cb : Nat} (h : Holds w (.agg #[.int .i64 v.kind, .bool v.yes, .string (mk v.text), .slice A (v.list.length : Nat) ca, .slice B (v.mem.length : Nat) cb]) v) (t : TypeId) :
    Reads (w.alloc (.cells #[.int .i64 v.kind, .bool v.yes, .string (mk v.text), .slice A (v.list.length : Nat) ca, .slice B (v.mem.length : Nat) cb] t)) ⟨w.heap.size, 0, none⟩ v := by
  obtain ⟨A', ca', B', cb', e, h1, h2, h3, h4, h5⟩ := h
  simp only [Value.agg.injEq, Array.mk.injEq, List.cons.injEq, Value.slice.injEq, true_and, and_true] at e
  obtain ⟨⟨rfl, rfl⟩, rfl, rfl⟩ := e
  have hk : ∀ {a : Addr} {u : Value} {o : Obj}, w.cell? a = some u → (w.alloc o).cell? a = some u := fun hu => (World.cell?_of_block (Below.heap_alloc w _ _ (lt_cell hu))).trans hu
  cases v with
  | mk k y t' l m =>
    simp only [V.kind, V.yes, V.text, V.list, V.mem] at *
    refine .mk _ k y t' l m A ca B cb ((Blk.new w _ _).cell 0) ((Blk.new w _ _).cell 1) ((Blk.new w _ _).cell 2) ((Blk.new w _ _).cell 3) ((Blk.new w _ _).cell 4) h1 h2 ?_ (fun i x hx => hk (h4 i x hx)) ?_
    · exact fun i x hx => (h3 i x hx).kept ((Below.refl _ _).alloc (Nat.le_refl _) _) (Nat.le_refl _)
    · exact fun i x hx => (h5 i x hx).kept ((Below.refl _ _).alloc (Nat.le_refl _) _) (Nat.le_refl _)
end Go.Proofs.YtkenananejgcpaaGreatDoor.Jsn
