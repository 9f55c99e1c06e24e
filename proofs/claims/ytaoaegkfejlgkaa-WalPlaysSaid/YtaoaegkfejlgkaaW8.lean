/-
  Rows of writes of one's own, made and appended to; the contracts of heading and creation of package wal.
-/
import Derived.Test.YtaoaegkfejlgkaaW7
namespace Go.Proofs.Ytaoaegkfejlgkaa.Dsk
open Go.RowKit
/-- The cells of writes. -/
def wsCells (l : List (Nat × Value)) : List Value := l.flatMap fun q => [.int .i64 (q.1 : Int), q.2]
theorem wsCells_length (l : List (Nat × Value)) : (wsCells l).length = l.length * 2 := by
  induction l with
  | nil => rfl
  | cons q l ih =>
    show ([Value.int .i64 (q.1 : Int), q.2] ++ wsCells l).length = _
    simp only [List.length_append, ih, List.length_cons, List.length_nil]
    omega
theorem wsCells_append (l m : List (Nat × Value)) : wsCells (l ++ m) = wsCells l ++ wsCells m := by simp [wsCells]
theorem wsCells_get : ∀ (l : List (Nat × Value)) (i : Nat) (q : Nat × Value), l[i]? = some q → (wsCells l)[i * 2]? = some (.int .i64 (q.1 : Int)) ∧ (wsCells l)[i * 2 + 1]? = some q.2 := by
  intro l
  induction l with
  | nil => intro i q h; simp at h
  | cons p l ih =>
    intro i q h
    cases i with
    | zero => simp at h; subst h; exact ⟨rfl, rfl⟩
    | succ i =>
      have := ih i q (by simpa using h)
      rw [show (i + 1) * 2 = i * 2 + 1 + 1 by omega]
      exact this
/-- A slice of bytes as the cell of a write. -/
def BytesAt (w : World) (S : Nat → Prop) (rb : Option Nat) (u : Value) (b : List UInt8) : Prop := ∃ B c, u = .slice B b.length c ∧ b.length ≤ c ∧ Rd w (fun k => S k ∧ rb ≠ some k) B b
theorem BytesAt.one {w : World} {S : Nat → Prop} {rb : Option Nat} {u : Value} {b : List UInt8} (h : BytesAt w S rb u b) : u.oneCell' = true := by
  obtain ⟨B, c, rfl, _⟩ := h
  rfl
structure WRow (w : World) (S : Nat → Prop) (v : Value) (ws : List Wr) : Prop where
  ex : ∃ us : List (Nat × Value), us.length = ws.length ∧ w.ownsRow 0 71 2 v ws.length (wsCells us) ∧ ∀ (i : Nat) a b, ws[i]? = some (a, b) → ∃ u, us[i]? = some (a, u) ∧ BytesAt w S v.ownBlock u b
  own : ∀ k, v.ownBlock = some k → S k
section
variable {w w' : World} {S S' : Nat → Prop} {v : Value} {ws : List Wr}
theorem WRow.nil (w : World) (S : Nat → Prop) : WRow w S (.slice none 0 0) [] := ⟨⟨[], rfl, ⟨rfl, .inl ⟨rfl, rfl⟩⟩, fun i a b h => by simp at h⟩, fun k e => by simp [Value.ownBlock] at e⟩
theorem WRow.rd (h : WRow w S v ws) : ∃ A c, v = .slice A ws.length c ∧ RdWs w S A ws := by
  obtain ⟨us, hl, h1, h2⟩ := h.ex
  have hcells := fun p => World.ownsRow.cells (g := p) h1
  have hlt := h1.lt
  have hown := h.own
  rcases h1.2 with ⟨rfl, h3⟩ | ⟨g, cap, cur, rfl, _⟩
  · refine ⟨none, 0, by rw [h3], fun i a b hi => ?_⟩
    have := (List.getElem?_eq_some_iff.1 hi).1
    omega
  · refine ⟨some ⟨g, 0, none⟩, cap, rfl, fun i a b hi => ?_⟩
    obtain ⟨u, hu, B, c, rfl, h5, h6⟩ := h2 i a b hi
    obtain ⟨g1, g2⟩ := wsCells_get us i _ hu
    refine ⟨⟨g, 0, none⟩, B, c, rfl, (hlt g rfl).2, hown g rfl, hcells g rfl _ _ g1, ?_, h5, h6.more (fun _ hk => hk.1)⟩
    have := hcells g rfl _ _ g2
    rw [Addr.add_mid] at this ⊢
    simpa using this
theorem WRow.keep (h : WRow w S v ws) (hk : ∀ k, S k → k < w.heap.size → w'.heap[k]? = w.heap[k]?) (hz : w.heap.size ≤ w'.heap.size) : WRow w' S v ws := by
  obtain ⟨us, hl, h1, h2⟩ := h.ex
  refine ⟨⟨us, hl, row_keep h1 (fun k e => hk k (h.own k e) (h1.lt k e).2), fun i a b hi => ?_⟩, h.own⟩
  obtain ⟨u, hu, B, c, e, h5, h6⟩ := h2 i a b hi
  refine ⟨u, hu, B, c, e, h5, fun hl => ?_⟩
  obtain ⟨ad, e, a1, a2, a3⟩ := h6 hl
  refine ⟨ad, e, a1, Nat.lt_of_lt_of_le a2 hz, fun j u hu => ?_⟩
  rw [← a3 j u hu]
  exact World.cell?_of_block (by rw [block_add]; exact hk _ a1.1 a2)
theorem WRow.old (h : WRow w S v ws) (hb : Below w.heap.size w w') : WRow w' S v ws := h.keep (fun k _ hk => hb.block k hk) hb.size
theorem WRow.more (h : WRow w S v ws) (hS : ∀ k, S k → S' k) : WRow w S' v ws := by
  obtain ⟨us, hl, h1, h2⟩ := h.ex
  refine ⟨⟨us, hl, h1, fun i a b hi => ?_⟩, fun k e => hS k (h.own k e)⟩
  obtain ⟨u, hu, B, c, e, h5, h6⟩ := h2 i a b hi
  exact ⟨u, hu, B, c, e, h5, h6.more (fun k hk => ⟨hS k hk.1, hk.2⟩)⟩
/-- A row that is made of writes. -/
theorem WRow.new (w : World) (S : Nat → Prop) (us : List (Nat × Value)) (ws : List Wr) (C : Array Value) (hC : C = (wsCells us).toArray) (hl : us.length = ws.length) (hm : ws.length ≤ 1000) (hS : S w.heap.size)
    (h : ∀ (i : Nat) a b, ws[i]? = some (a, b) → ∃ u, us[i]? = some (a, u) ∧ ∃ B c, u = .slice B b.length c ∧ b.length ≤ c ∧ Rd w S B b) (n : Nat) (hn : n = ws.length) : WRow (w.alloc (.cells C 71)) S (.slice (some ⟨w.heap.size, 0, none⟩) n n) ws := by
  subst hC hn
  refine ⟨⟨us, hl, ⟨by rw [wsCells_length, hl], .inr ⟨w.heap.size, ws.length, (wsCells us).toArray, rfl, Nat.zero_le _, heap_alloc_new w _, Nat.le_refl _, by unfold maxLen; omega, by simp [wsCells_length, hl], ?_⟩⟩, fun i a b hi => ?_⟩, fun k e => ?_⟩
  · rw [List.take_of_length_le (by simp [wsCells_length, hl])]
  · obtain ⟨u, hu, B, c, e, h5, h6⟩ := h i a b hi
    refine ⟨u, hu, B, c, e, h5, ?_⟩
    refine ((h6.tight.below (w' := w.alloc (.cells (wsCells us).toArray 71)) ((Below.refl _ _).alloc (Nat.le_refl w.heap.size) _) (fun _ hk => hk.2))).more (fun k hk => ⟨hk.1, fun e2 => ?_⟩)
    have e3 : some w.heap.size = some k := e2
    injection e3 with e3
    omega
  · have e3 : some w.heap.size = some k := e
    injection e3 with e3
    exact e3 ▸ hS
end
theorem infoWr : (Try.prog.info? 71).map (fun i => (i.zero, i.size, i.bytes)) = some (some (.agg #[.int .i64 0, .slice none 0 0]), 2, 32) := by kernel_rfl
/-- append(x, y...) of writes. -/
theorem wpList_append_ws {w : World} {ops : Array Oper} {rest : List Oper} {o : Oper} {a : Act} {Q : Exit → Act → World → Prop} (hgd : o.guard = none) (s x : Operand)
    (ho : o.op = .call { callee := .builtin .append, args := #[s, x], argTypes := #[60, 60] })
    (S : Nat → Prop) (v vx : Value) (ws ws' : List Wr) (hs : a.eval s = v) (hx : a.eval x = vx) (hv : WRow w S v ws) (B0 : Nat) (hvx : WRow w (fun k => S k ∧ B0 ≤ k) vx ws') (hB : ∀ k, v.ownBlock = some k → k < B0) (hne : 0 < ws'.length) (hm : ws.length + ws'.length ≤ 1000) (hnew : ∀ k, w.heap.size ≤ k → S k)
    (h : ∀ v' w', Hid (WRow w' S v' (ws ++ ws')) → Hid (w.grownBy w' v.ownBlock) → Hid (v'.ownBlock = v.ownBlock ∨ v'.ownBlock = some w.heap.size) → Hid (∃ A c, v' = .slice A (ws.length + ws'.length) c) → wpList Try.prog ops Q rest (a.put o.dst v') w') : wpList Try.prog ops Q (o :: rest) a w := by
  obtain ⟨us, hl, h1, h2⟩ := hv.ex
  obtain ⟨us', hl', h1', h2'⟩ := hvx.ex
  have h3' : ∀ (i : Nat) a b, ws'[i]? = some (a, b) → ∃ u, us'[i]? = some (a, u) ∧ BytesAt w S v.ownBlock u b := fun i a b hi => by
    obtain ⟨u, hu, B, c, e, h5, h6⟩ := h2' i a b hi
    exact ⟨u, hu, B, c, e, h5, h6.more (fun k hk => ⟨hk.1.1, fun e => by have := hB k e; have := hk.1.2; omega⟩)⟩
  have hcells := fun p => World.ownsRow.cells (g := p) h1'
  rcases h1'.2 with ⟨e, h3⟩ | ⟨g, cap, cur, e, _⟩
  · omega
  subst e
  refine wpList_append_at hgd s x 60 ho 0 71 2 32 _ Try.underlying60 infoWr rfl (by decide) (by decide) v ws.length (wsCells us) hs h1 ⟨g, 0, none⟩ ws'.length cap (wsCells us') hx (by rw [wsCells_length, hl']) (hcells g rfl) ?_ (by omega) (Nat.zero_le _) hne ?_
  · intro u hu
    simp only [wsCells, List.mem_flatMap] at hu
    obtain ⟨q, hq, hu⟩ := hu
    simp only [List.mem_cons, List.not_mem_nil, or_false] at hu
    rcases hu with rfl | rfl
    · rfl
    · obtain ⟨i, hi⟩ := List.getElem?_of_mem hq
      have hil := (List.getElem?_eq_some_iff.1 hi).1
      obtain ⟨u, hu, hb⟩ := h3' i (ws'[i]'(by omega)).1 (ws'[i]'(by omega)).2 (by rw [List.getElem?_eq_getElem (by omega)])
      rw [hi] at hu
      injection hu with hu
      rw [show q.2 = u from by rw [hu]]
      exact hb.one
  · intro v' w' ho' hg' hw'
    have hlt := ho'.out.lt
    have hrb : ∀ {u : Value} {b : List UInt8}, BytesAt w S v.ownBlock u b → BytesAt w' S v'.ownBlock u b := fun {u b} hb => by
      obtain ⟨B, c, e, h5, h6⟩ := hb
      refine ⟨B, c, e, h5, fun hlen => ?_⟩
      obtain ⟨ad, e, a1, a2, a3⟩ := h6 hlen
      refine ⟨ad, e, ⟨a1.1, fun e2 => ?_⟩, Nat.lt_of_lt_of_le a2 hg'.out.size, fun j u hu => ?_⟩
      · rcases hw'.out with h7 | h7
        · exact a1.2 (h7 ▸ e2)
        · rw [h7] at e2; injection e2 with e2; omega
      · rw [← a3 j u hu]
        exact World.cell?_of_block (by rw [block_add]; exact hg'.out.block _ a2 (fun e => a1.2 e.symm))
    refine h v' w' (Lib.hid ⟨⟨us ++ us', by simp [hl, hl'], by rw [List.length_append, wsCells_append]; exact ho'.out, fun i a b hi => ?_⟩, fun k e => ?_⟩) hg' hw' (Lib.hid ?_)
    · by_cases hil : i < ws.length
      · rw [List.getElem?_append_left hil] at hi
        obtain ⟨u, hu, hb⟩ := h2 i a b hi
        exact ⟨u, by rw [List.getElem?_append_left (by omega)]; exact hu, hrb hb⟩
      · rw [List.getElem?_append_right (by omega)] at hi
        obtain ⟨u, hu, hb⟩ := h3' _ a b hi
        exact ⟨u, by rw [List.getElem?_append_right (by omega), hl]; exact hu, hrb hb⟩
    · rcases hw'.out with h7 | h7
      · exact hv.own k (h7 ▸ e)
      · rw [h7] at e; injection e with e; exact hnew k (by omega)
    · obtain ⟨A, c, e⟩ := row_slice ho'.out
      exact ⟨A, c, e⟩
/-- Writes that were made. -/
def MadeW (w : World) (ws : List Wr) (e : Ending) (w' : World) : Prop := ∃ v, e = .returned v ∧ WRow w' (fun k => w.heap.size ≤ k) v ws ∧ Below w.heap.size w w'
set_option maxRecDepth 100000
set_option maxHeartbeats 2000000 in
theorem heading_any (w : World) (st g : Nat) (hg : g < 4294967296) (hst : st ≤ 2000000) :
    Calls Try.prog 45 #[.int .i64 (st : Int), .int .i64 (g : Int)] w (MadeW w [(st, headB g 0), (st + 8, [1])]) := by
  have q8 : IntKind.i64.wrap ((st : Int) + 8) = (st : Int) + 8 := by rw [IntKind.wrap_i64]; omega
  have HH := Lib.hid (head_any w g 0 hg)
  rw [show (((0 : UInt8).toNat : Nat) : Int) = 0 from rfl] at HH
  have HST := Lib.hid hst
  clear hg hst
  go_enter Try.func45, Try.ntmps45
  go_wp2_with fail
  refine HH.out.mono ?_
  rintro e w1 ⟨p, rfl, h1, hk, hb, hz⟩
  have HK := Lib.hid hk
  have HB := Lib.hid hb
  clear hk hb HH
  go_wp2
  go_ret
  have hb2 : Below w.heap.size w (w1.alloc (.cells #[.int .u8 1] 5)) := HB.out.alloc hz _
  have hone := Blk.new w1 5 #[.int .u8 1] (bc [1]) rfl
  refine ⟨_, rfl, ?_, hb2.alloc (by simp; omega) _⟩
  have := WRow.new (w1.alloc (.cells #[.int .u8 1] 5)) (fun k => w.heap.size ≤ k) [(st, .slice (some ⟨p, 0, none⟩) 16 16), (st + 8, .slice (some ⟨w1.heap.size, 0, none⟩) 1 1)] [(st, headB g 0), (st + 8, [1])] #[.int .i64 (st : Int), .slice (some ⟨p, 0, none⟩) 16 16, .int .i64 ((st : Int) + 8), .slice (some ⟨w1.heap.size, 0, none⟩) 1 1] (by simp [wsCells]) rfl (by simp) (by simp; omega) (fun i a b hi => by
    rcases i with _ | _ | i
    · simp at hi
      obtain ⟨rfl, rfl⟩ := hi
      exact ⟨_, rfl, some ⟨p, 0, none⟩, 16, by rw [headB_length], by rw [headB_length]; omega, (Rd.of_blk (HK.out.alloc _)).more (fun k hk => by have : k = p := hk; omega)⟩
    · simp at hi
      obtain ⟨rfl, rfl⟩ := hi
      exact ⟨_, rfl, some ⟨w1.heap.size, 0, none⟩, 1, rfl, Nat.le_refl _, (Rd.of_blk hone).more (fun k hk => by have : k = w1.heap.size := hk; omega)⟩
    · simp at hi) 2 rfl
  simpa using this
set_option maxHeartbeats 2000000 in
/-- The first log of a half that is blank. -/
theorem creation_any (w : World) (S : Nat → Prop) (A : Option Addr) (c : Nat) (l : List UInt8) (hR : Rd w S A l) (hl : l.length ≤ 2000000) (hb : blankB l = true) :
    Calls Try.prog 39 #[.slice A l.length c] w (MadeW w [(0, headB 1 0), (8, [1])]) := by
  have HI := Lib.hid (isBlank_any w S A c l hR hl)
  rw [hb] at HI
  have HH := Lib.hid (heading_any w 0 1 (by decide) (by decide))
  rw [show ((0 : Nat) : Int) = 0 from rfl, show ((1 : Nat) : Int) = 1 from rfl] at HH
  clear hb hl hR
  go_enter Try.func39, Try.ntmps39
  go_wp2_with fail
  refine HI.out.mono ?_
  rintro e w1 ⟨rfl, rfl⟩
  go_wp2_with fail
  refine HH.out.mono ?_
  rintro e w1 ⟨v, rfl, hr, hb⟩
  have HR := Lib.hid hr
  have HB := Lib.hid hb
  clear hr hb
  go_wp2_with (at_builtin; go_must (refine wpList_append_ws rfl _ _ rfl (fun k => w.heap.size ≤ k) (.slice none 0 0) v [] [(0, headB 1 0), (8, [1])] rfl rfl (WRow.nil _ _) 0 (HR.out.more (fun _ hk => ⟨hk, Nat.zero_le _⟩)) (fun k e => by simp [Value.ownBlock] at e) (by decide) (by decide) (fun k hk => Nat.le_trans HB.out.size hk) ?_); intro v2 w2 HR2 HG2 _ _)
  go_ret
  exact ⟨v2, rfl, HR2.out, HB.out.grown HG2.out HB.out.size (fun j hj => by have : none = some j := hj; cases this)⟩
end Go.Proofs.Ytaoaegkfejlgkaa.Dsk
