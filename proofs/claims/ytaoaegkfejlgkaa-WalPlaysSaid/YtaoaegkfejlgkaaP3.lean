/-
  What a play of layer 8 keeps from step to step.
-/
import Derived.Test.YtaoaegkfejlgkaaP2
import Derived.Deep.RegionLaw
namespace Go.Proofs.Ytaoaegkfejlgkaa.Dsk
open Go.RowKit
theorem Ch.tot {h : List UInt8} {g : Nat} : ∀ {rs : List (List UInt8)} {p q : Nat}, Ch h g p rs q → q = p + tot rs
  | [], p, q, h1 => by simp only [Ch] at h1; simp [Dsk.tot]; omega
  | x :: r, p, q, h1 => by have := Ch.tot h1.2; simp only [Dsk.tot]; omega
theorem newErr_eq {c : Lc} {ns : List (List UInt8)} (hs : 16 ≤ c.sz) : newErr c.sz (c.g : Int) ns = anewErr c ns := by
  unfold newErr anewErr rcost
  by_cases h : ∀ x ∈ ns, Okp x
  · have hb : ¬ ∃ x ∈ ns, ¬ Okp x := fun ⟨x, hx, h9⟩ => h9 (h x hx)
    rw [if_pos h, if_neg hb, if_neg (by omega)]
    by_cases h2 : c.sz - 16 < tot ns
    · rw [if_pos h2, if_pos (by omega)]
    · rw [if_neg h2, if_neg (by omega)]
      by_cases h3 : c.g = 2147483647
      · rw [if_pos h3, if_pos (by omega)]
      · rw [if_neg h3, if_neg (by omega)]
  · have hb : ∃ x ∈ ns, ¬ Okp x := by
      refine Classical.byContradiction fun h9 => h fun x hx => Classical.byContradiction fun h8 => h9 ⟨x, hx, h8⟩
    rw [if_neg h, if_pos hb, if_pos (by decide)]
/-- A row of texts of one's own: the texts lie in blocks for which P holds, the row from C on. -/
structure OwnP (w : World) (P : Nat → Prop) (C : Nat) (v : Value) (rs : List (List UInt8)) : Prop where
  ex : ∃ xs, w.ownsRow 0 33 1 v rs.length xs ∧ ∀ (i : Nat) x, rs[i]? = some x → ∃ Bx c, xs[i]? = some (.slice Bx x.length c) ∧ x.length ≤ c ∧ Rd w P Bx x
  own : ∀ k, v.ownBlock = some k → C ≤ k
section
variable {w w' : World} {P : Nat → Prop} {C : Nat} {v : Value} {rs : List (List UInt8)}
theorem OwnP.form (h : OwnP w P C v rs) : ∃ A c, v = .slice A rs.length c := by
  obtain ⟨xs, h1, _⟩ := h.ex
  exact row_slice h1
theorem OwnP.lt (h : OwnP w P C v rs) : ∀ k, v.ownBlock = some k → k < w.heap.size := by
  obtain ⟨xs, h1, _⟩ := h.ex
  exact fun k e => (h1.lt k e).2
theorem OwnP.old (h : OwnP w P C v rs) (hb : Below w.heap.size w w') : OwnP w' P C v rs := by
  obtain ⟨xs, h1, h2⟩ := h.ex
  refine ⟨⟨xs, row_keep h1 (fun k e => hb.block k (h1.lt k e).2), fun i x hx => ?_⟩, h.own⟩
  obtain ⟨Bx, c, e1, e2, e3⟩ := h2 i x hx
  exact ⟨Bx, c, e1, e2, e3.old hb⟩
theorem OwnP.rdl (h : OwnP w P C v rs) {A : Option Addr} {n c : Nat} (hv : v = .slice A n c) : RdL w (fun k => P k ∨ C ≤ k) A rs := fun i x hx => by
  obtain ⟨xs, h1, h2⟩ := h.ex
  obtain ⟨Bx, cx, e1, e2, e3⟩ := h2 i x hx
  have hcells := fun p => World.ownsRow.cells (g := p) h1
  have hown := h.own
  have hlt := h1.lt
  rcases h1.2 with ⟨e, h3⟩ | ⟨g, cap, cur, e, _⟩
  · have := (List.getElem?_eq_some_iff.1 hx).1; omega
  · rw [e] at hv hown hlt
    injection hv with hv _ _
    exact ⟨⟨g, 0, none⟩, Bx, cx, hv.symm, .inr (hown g rfl), (hlt g rfl).2, hcells g (by rw [e]; rfl) _ _ e1, e2, e3.more (fun k hk => .inl hk)⟩
/-- Behind an append. -/
theorem OwnP.grown {us : List Value} {ls : List (List UInt8)} {xs : List Value} {v' : Value} (ho : w.ownsRow 0 33 1 v ls.length xs) (hr : ∀ (i : Nat) x, ls[i]? = some x → ∃ Bx c, xs[i]? = some (.slice Bx x.length c) ∧ x.length ≤ c ∧ Rd w P Bx x) (hown : ∀ k, v.ownBlock = some k → C ≤ k) (hus : ∀ (i : Nat) x, rs[i]? = some x → ∃ Bx c, us[i]? = some (.slice Bx x.length c) ∧ x.length ≤ c ∧ Rd w P Bx x)
    (ho' : w'.ownsRow 0 33 1 v' (ls.length + rs.length) (xs ++ us)) (hg : w.grownBy w' v.ownBlock) (hBC : ∀ k, P k → k < C) (hv' : ∀ k, v'.ownBlock = some k → C ≤ k) : OwnP w' P C v' (ls ++ rs) := by
  have hxl : xs.length = ls.length := by have := ho.1; omega
  have keep : ∀ {Bx : Option Addr} {x : List UInt8}, Rd w P Bx x → Rd w' P Bx x := fun {Bx x} h hl => by
    obtain ⟨ad, e, a1, a2, a3⟩ := h hl
    refine ⟨ad, e, a1, Nat.lt_of_lt_of_le a2 hg.size, fun j u hu => ?_⟩
    rw [← a3 j u hu]
    refine World.cell?_of_block ?_
    rw [block_add]
    exact hg.block _ a2 (fun e => by have := hown _ e.symm; have := hBC _ a1; omega)
  refine ⟨⟨xs ++ us, by rw [List.length_append]; exact ho', fun i x hx => ?_⟩, hv'⟩
  by_cases hi : i < ls.length
  · rw [List.getElem?_append_left hi] at hx
    obtain ⟨Bx, c, e1, e2, e3⟩ := hr i x hx
    exact ⟨Bx, c, by rw [List.getElem?_append_left (by omega)]; exact e1, e2, keep e3⟩
  · rw [List.getElem?_append_right (by omega)] at hx
    obtain ⟨Bx, c, e1, e2, e3⟩ := hus _ x hx
    exact ⟨Bx, c, by rw [List.getElem?_append_right (by omega), hxl]; exact e1, e2, keep e3⟩
end
/-- Texts in a slice, wherever it lies. -/
def SrcsP (w : World) (P : Nat → Prop) (A : Option Addr) (rs : List (List UInt8)) : Prop :=
  (A = none ∧ rs = []) ∨ ∃ (ad : Addr) (us : List Value), A = some ad ∧ us.length = rs.length ∧ (∀ j u, us[j]? = some u → w.cell? (ad.add j) = some u) ∧ (∀ u ∈ us, u.oneCell' = true) ∧ ∀ (i : Nat) x, rs[i]? = some x → ∃ Bx c, us[i]? = some (.slice Bx x.length c) ∧ x.length ≤ c ∧ Rd w P Bx x
theorem RdL.srcsP {w : World} {P : Nat → Prop} {A : Option Addr} {rs : List (List UInt8)} (h : RdL w P A rs) : SrcsP w P A rs := by
  cases A with
  | none =>
    refine .inl ⟨rfl, ?_⟩
    cases rs with
    | nil => rfl
    | cons y r => obtain ⟨_, _, _, e, _⟩ := h 0 y rfl; cases e
  | some ad =>
    obtain ⟨us, h1, h2, h3, h4⟩ := h.cells
    exact .inr ⟨ad, us, rfl, h1, h2, h3, h4⟩
theorem OwnP.form2 {w : World} {P : Nat → Prop} {C : Nat} {v : Value} {rs : List (List UInt8)} (h : OwnP w P C v rs) : ∃ A c, v = .slice A rs.length c ∧ (A = none → c = 0) := by
  obtain ⟨xs, h1, _⟩ := h.ex
  rcases h1.2 with ⟨e, h0⟩ | ⟨g, cap, cur, e, _⟩
  · exact ⟨none, 0, by rw [e, h0], fun _ => rfl⟩
  · exact ⟨_, cap, e, fun h => by cases h⟩
theorem RdL.tight2 {w : World} {S : Nat → Prop} {A : Option Addr} {rs : List (List UInt8)} (h : RdL w S A rs) : RdL w (fun k => S k ∧ k < w.heap.size) A rs := fun i x hi => by
  obtain ⟨ad, Bx, c, e1, e2, e3, e4, e5, e6⟩ := h i x hi
  exact ⟨ad, Bx, c, e1, ⟨e2, e3⟩, e3, e4, e5, fun hl => by
    obtain ⟨a, f1, f2, f3, f4⟩ := e6 hl
    exact ⟨a, f1, ⟨f2, f3⟩, f3, f4⟩⟩
/-- append of a list of texts, within a region that draws. -/
theorem step_append_list {w : World} {ops : Array Oper} {o : Oper} {a : Act} {K : Act → World → Prop} {Q : Exit → Act → World → Prop} {E : Prop} (hgd : o.guard = none) (s x : Operand)
    (ho : o.op = .call { callee := .builtin .append, args := #[s, x], argTypes := #[32, 32] }) (P : Nat → Prop) (C : Nat) (v : Value) (ls rs : List (List UInt8)) (hs : a.eval s = v) (hown : OwnP w P C v ls) (A : Option Addr) (c : Nat) (hx : a.eval x = .slice A rs.length c) (hc : A = none → c = 0) (hr : SrcsP w P A rs) (hBC : ∀ k, P k → k < C) (hC : C ≤ w.heap.size) (hm : ls.length + rs.length ≤ 100000)
    (h : ∀ v' w', Hid (OwnP w' P C v' (ls ++ rs)) → Hid (Below C w w') → Hid (w.grownBy w' v.ownBlock) → K (a.put o.dst v') w') : if Region.wanted o (yielded ops a.tmps) = true then Oper.wp Try.prog o a w K Q else E := by
  have hw : Region.wanted o (yielded ops a.tmps) = true := by simp [Region.wanted, hgd]
  rw [if_pos hw]
  obtain ⟨i0, hi0, hz0, hz1, hz2⟩ := info_parts infoRow
  obtain ⟨xs, h1, h2⟩ := hown.ex
  rcases hr with ⟨rfl, rfl⟩ | ⟨ad, us, rfl, hul, hus1, hus2, hus3⟩
  · obtain rfl := hc rfl
    have hrun := run_append_owned_none (P := Try.prog) (w := w) 0 32 o.type 33 i0 1 Try.underlying32 hi0 v ls.length _ h1
    have hx' : a.eval x = .slice none 0 0 := hx
    unfold Oper.wp
    simp [execOp, ho, resolve, invoke, builtin, hs, hx', hrun, Result.andThen]
    exact h v w (Lib.hid (by simpa using hown)) (Lib.hid (Below.refl _ _)) (Lib.hid (World.grownBy.refl w _))
  · obtain ⟨v', w', hrun, h3, h4, _⟩ := run_append_own (P := Try.prog) w C 32 o.type 33 i0 _ 1 24 Try.underlying32 hi0 hz0 hz1 hz2 rfl (by decide) v ls.length _ (row_up h1 hown.own) ad rs.length c us (by omega) hus1 hus2 (by unfold maxLen; omega) (by omega) hC
    unfold Oper.wp
    simp [execOp, ho, resolve, invoke, builtin, hs, hx, hrun, Result.andThen]
    have hb : Below C w w' := ⟨h4.os, h4.tape, h4.output, h4.size, fun k hk => h4.block k (by omega) (fun e => by have := hown.own k e.symm; omega)⟩
    obtain ⟨h5, h6⟩ := row_down h3
    exact h v' w' (Lib.hid (OwnP.grown h1 h2 hown.own hus3 h5 h4 hBC h6)) (Lib.hid hb) (Lib.hid h4)
theorem blk_second (w1 : World) (o : Obj) (t : TypeId) (C : List Value) : Blk ((w1.alloc o).alloc (.cells C.toArray t)) (w1.heap.size + 1) t C := by
  have := Blk.new (w1.alloc o) t C.toArray C rfl
  rwa [World.size_alloc] at this
/-- An empty row of texts, wherever it was made. -/
theorem own_list_at {w : World} {p C : Nat} {P : Nat → Prop} (h : Blk w p 33 []) (hC : C ≤ p) : OwnP w P C (.slice (some ⟨p, 0, none⟩) 0 0) [] :=
  ⟨⟨[], ⟨rfl, .inr ⟨p, 0, #[], rfl, Nat.zero_le _, h, Nat.le_refl _, Nat.zero_le _, rfl, rfl⟩⟩, fun i x hx => by simp at hx⟩, fun k e => by
    have e' : some p = some k := e
    injection e' with e'
    omega⟩
theorem srcs_at {w : World} {p : Nat} {P : Nat → Prop} {Bx : Option Addr} {n c : Nat} {x : List UInt8} (hn : n = x.length) (hc : x.length ≤ c) (h : Rd w P Bx x) (hb : Blk w p 33 [.slice Bx n c]) : SrcsP w P (some ⟨p, 0, none⟩) [x] := by
  subst hn
  refine .inr ⟨_, [.slice Bx x.length c], rfl, rfl, fun j u hu => by rw [Addr.add_mid, Nat.zero_add, hb.cell]; exact hu, fun u hu => by rw [List.mem_singleton.1 hu]; rfl, fun i y hy => ?_⟩
  cases i with
  | zero =>
    simp at hy
    subst hy
    exact ⟨Bx, c, rfl, hc, h⟩
  | succ i => simp at hy
/-- A list in memory that neither the disk nor the log touches. -/
def Lst (wr : World) (d g0 lb : Nat) (S : Nat → Prop) (v : Value) (rs : List (List UInt8)) : Prop :=
  ∃ A c, v = .slice A rs.length c ∧ (A = none → c = 0) ∧ RdL wr (fun j => j < wr.heap.size ∧ j ≠ d ∧ j ≠ g0 ∧ j ≠ lb ∧ ¬ S j) A rs
theorem Lst.keep {wr w' : World} {d g0 lb lb' : Nat} {S S' : Nat → Prop} {v : Value} {rs : List (List UInt8)} (h : Lst wr d g0 lb S v rs) (hk : ∀ j, j < wr.heap.size → j ≠ d → j ≠ g0 → j ≠ lb → ¬ S j → w'.heap[j]? = wr.heap[j]?) (hz : wr.heap.size ≤ w'.heap.size) (hS : ∀ j, S' j → S j ∨ wr.heap.size ≤ j) (hl : lb' = lb ∨ wr.heap.size ≤ lb') : Lst w' d g0 lb' S' v rs := by
  obtain ⟨A, c, e, h1, h2⟩ := h
  refine ⟨A, c, e, h1, (h2.keep (fun j hj _ => hk j hj.1 hj.2.1 hj.2.2.1 hj.2.2.2.1 hj.2.2.2.2) hz).more (fun j hj => ⟨by omega, hj.2.1, hj.2.2.1, ?_, fun e => ?_⟩)⟩
  · rcases hl with hl | hl
    · rw [hl]; exact hj.2.2.2.1
    · have := hj.1; omega
  · rcases hS j e with h9 | h9
    · exact hj.2.2.2.2 h9
    · have := hj.1; omega
theorem Lst.old {wr w' : World} {d g0 lb : Nat} {S : Nat → Prop} {v : Value} {rs : List (List UInt8)} (h : Lst wr d g0 lb S v rs) (hb : Below wr.heap.size wr w') : Lst w' d g0 lb S v rs := h.keep (fun j hj _ _ _ _ => hb.block j hj) hb.size (fun _ h => .inl h) (.inl rfl)
/-- What holds while the play goes on. -/
structure Bs (w : World) (d g0 lb k : Nat) (S : Nat → Prop) (wv mv : Value) (want may : List (List UInt8)) (wr : World) : Prop where
  wl : Lst wr d g0 lb S wv want
  ml : Lst wr d g0 lb S mv may
  wok : ∀ x ∈ want, Okp x
  wlen : want.length ≤ 8 + k
  mlen : may.length ≤ 9 + k
  own : ∀ j, S j → w.heap.size ≤ j
  lbw : w.heap.size ≤ lb
  dw : w.heap.size ≤ d
  gw : w.heap.size ≤ g0
  bel : Below w.heap.size w wr
theorem Bs.old {w wr w' : World} {d g0 lb k : Nat} {S : Nat → Prop} {wv mv : Value} {want may : List (List UInt8)} (h : Bs w d g0 lb k S wv mv want may wr) (hb : Below wr.heap.size wr w') : Bs w d g0 lb k S wv mv want may w' :=
  ⟨h.wl.old hb, h.ml.old hb, h.wok, h.wlen, h.mlen, h.own, h.lbw, h.dw, h.gw, h.bel.trans (hb.mono h.bel.size)⟩
/-- Behind a call of the log or the disk. -/
theorem Bs.step {w wr w' : World} {d g0 lb k : Nat} {S S' : Nat → Prop} {wv mv : Value} {want may : List (List UInt8)} (h : Bs w d g0 lb k S wv mv want may wr) (hk : Kp (fun j => j = d ∨ j = g0 ∨ j = lb ∨ S j) wr w') (hS : ∀ j, S' j → S j ∨ wr.heap.size ≤ j) : Bs w d g0 lb k S' wv mv want may w' := by
  have hkk : ∀ j, j < wr.heap.size → j ≠ d → j ≠ g0 → j ≠ lb → ¬ S j → w'.heap[j]? = wr.heap[j]? := fun j hj a b c e => hk.block j hj (fun h => by rcases h with h | h | h | h; exact a h; exact b h; exact c h; exact e h)
  refine ⟨h.wl.keep hkk hk.size hS (.inl rfl), h.ml.keep hkk hk.size hS (.inl rfl), h.wok, h.wlen, h.mlen, fun j hj => ?_, h.lbw, h.dw, h.gw, h.bel.trans (hk.below h.bel.size (fun j e => ?_))⟩
  · have := h.bel.size
    rcases hS j hj with e | e
    · exact h.own j e
    · omega
  · have h1 := h.lbw
    have h2 := h.dw
    have h3 := h.gw
    rcases e with e | e | e | e
    · omega
    · omega
    · omega
    · exact h.own j e
theorem Bs.but {w wr w' : World} {d g0 lb k : Nat} {S : Nat → Prop} {wv mv : Value} {want may : List (List UInt8)} (h : Bs w d g0 lb k S wv mv want may wr) (hb : But d g0 wr w') : Bs w d g0 lb k S wv mv want may w' :=
  h.step ((Kp.of_but hb).mono (fun j _ e => by rcases e with e | e; exact .inl e; exact .inr (.inl e))) (fun _ h => .inl h)
theorem Bs.up {w wr : World} {d g0 lb k m : Nat} {S : Nat → Prop} {wv mv : Value} {want may : List (List UInt8)} (h : Bs w d g0 lb k S wv mv want may wr) (hm : k ≤ m) : Bs w d g0 lb m S wv mv want may wr :=
  ⟨h.wl, h.ml, h.wok, by have := h.wlen; omega, by have := h.mlen; omega, h.own, h.lbw, h.dw, h.gw, h.bel⟩
/-- The play, its disk up and its log open, or down. -/
def PlI (w : World) (d g0 N k lb : Nat) (wv mv : Value) (want may : List (List UInt8)) (cut : Bool) (wr : World) : Prop :=
  ∃ S, Bs w d g0 lb k S wv mv want may wr ∧ ∃ s c, (cut = false ∧ Well wr d g0 lb S s c (10 + 6 * k) N ∧ c.rs = want) ∨ (cut = true ∧ Sys wr d g0 lb S s c ∧ c.was = true ∧ s.down = true ∧ ∃ c', Has wr d g0 s (10 + 6 * k) N c' ∧ (c'.rs = want ∨ c'.rs = may))
theorem Well.mono {w : World} {d g0 lb : Nat} {S : Nat → Prop} {s : Dk} {c : Lc} {n m N : Nat} (h : Well w d g0 lb S s c n N) (hm : n ≤ m) : Well w d g0 lb S s c m N := ⟨h.sys, h.ok.mono hm, h.len, h.sz, h.up, h.was, h.wk, h.bl⟩
theorem Has.mono {w : World} {d g0 : Nat} {s : Dk} {c : Lc} {n m N : Nat} (h : Has w d g0 s n N c) (hm : n ≤ m) : Has w d g0 s m N c := ⟨h.dsk, h.ok.mono hm, h.len, h.sz, h.wk⟩
theorem Bs.opened {w wr w' : World} {d g0 lb lb' k : Nat} {S S' : Nat → Prop} {wv mv : Value} {want may : List (List UInt8)} (h : Bs w d g0 lb k S wv mv want may wr) (hb : But d g0 wr w') (hlb : wr.heap.size ≤ lb') (hS' : ∀ j, S' j → wr.heap.size ≤ j) : Bs w d g0 lb' k S' wv mv want may w' := by
  have hkk : ∀ j, j < wr.heap.size → j ≠ d → j ≠ g0 → j ≠ lb → ¬ S j → w'.heap[j]? = wr.heap[j]? := fun j hj a b _ _ => hb.block j hj a b
  have h1 := h.bel.size
  exact ⟨h.wl.keep hkk hb.size (fun j e => .inr (hS' j e)) (.inr hlb), h.ml.keep hkk hb.size (fun j e => .inr (hS' j e)) (.inr hlb), h.wok, h.wlen, h.mlen, fun j hj => Nat.le_trans h1 (hS' j hj), by omega, h.dw, h.gw, h.bel.trans (hb.below h1 h.dw h.gw)⟩
/-- The records that were told are what is wanted. -/
theorem Bs.got {w w' : World} {d g0 lb k B : Nat} {S : Nat → Prop} {wv mv : Value} {want may : List (List UInt8)} (h : Bs w d g0 lb k S wv mv want may w') (r n : Nat) (rs : List (List UInt8)) (hn : n = rs.length) (hr : RL w' (fun j => B ≤ j) r rs) (hS : ∀ j, S j → j < B) (hd : d < B) (hg : g0 < B) (hl : lb < B) (hok : ∀ x ∈ rs, Okp x) (hle : rs.length ≤ 9 + k) : Bs w d g0 lb (k + 1) S (.slice (some ⟨r, 0, none⟩) n n) mv rs may w' := by
  subst hn
  refine ⟨⟨some ⟨r, 0, none⟩, rs.length, rfl, (fun e => by cases e), fun i x hi => ?_⟩, h.ml, hok, by omega, by have := h.mlen; omega, h.own, h.lbw, h.dw, h.gw, h.bel⟩
  obtain ⟨ad, B', c, e1, e2, e3, e4, e5, e6⟩ := hr.rdl i x hi
  refine ⟨ad, B', c, e1, ⟨e3, by omega, by omega, by omega, fun e => by have := hS _ e; omega⟩, e3, e4, e5, fun hl' => ?_⟩
  obtain ⟨a', f1, f2, f3, f4⟩ := e6 hl'
  exact ⟨a', f1, ⟨f3, by omega, by omega, by omega, fun e => by have := hS _ e; omega⟩, f3, f4⟩
/-- Another list is wanted, or may be there. -/
theorem Bs.want {w w' : World} {d g0 lb k m : Nat} {S : Nat → Prop} {wv mv v : Value} {want may ls : List (List UInt8)} (h : Bs w d g0 lb k S wv mv want may w') (hv : Lst w' d g0 lb S v ls) (hok : ∀ x ∈ ls, Okp x) (hle : ls.length ≤ 8 + m) (hm : k ≤ m) : Bs w d g0 lb m S v mv ls may w' :=
  ⟨hv, h.ml, hok, hle, by have := h.mlen; omega, h.own, h.lbw, h.dw, h.gw, h.bel⟩
theorem Bs.may {w w' : World} {d g0 lb k m : Nat} {S : Nat → Prop} {wv mv v : Value} {want may ls : List (List UInt8)} (h : Bs w d g0 lb k S wv mv want may w') (hv : Lst w' d g0 lb S v ls) (hle : ls.length ≤ 9 + m) (hm : k ≤ m) : Bs w d g0 lb m S wv v want ls w' :=
  ⟨h.wl, hv, h.wok, by have := h.wlen; omega, hle, h.own, h.lbw, h.dw, h.gw, h.bel⟩
/-- A list among what came in. -/
theorem lst_in {w wr : World} {d g0 lb k : Nat} {S : Nat → Prop} {wv mv : Value} {want may : List (List UInt8)} (h : Bs w d g0 lb k S wv mv want may wr) {A : Option Addr} {n c : Nat} {rs : List (List UInt8)} (hr : RdL wr (· < w.heap.size) A rs) (hn : n = rs.length) (hc : A = none → c = 0) : Lst wr d g0 lb S (.slice A n c) rs := by
  subst hn
  have h1 := h.bel.size
  have h2 := h.dw
  have h3 := h.gw
  have h4 := h.lbw
  exact ⟨A, c, rfl, hc, hr.more (fun j (hj : j < w.heap.size) => ⟨by omega, by omega, by omega, by omega, fun e => by have := h.own j e; omega⟩)⟩
/-- Appending, in a play. -/
def AppP (w : World) (d g0 lb : Nat) (S : Nat → Prop) (c : Lc) (n N : Nat) (b : List UInt8) (E : Int) (e : Ending) (w' : World) : Prop :=
  Kp (fun k => k = d ∨ k = g0 ∨ k = lb ∨ S k) w w' ∧ ∃ s' S', (∀ k, S' k → S k ∨ w.heap.size ≤ k) ∧
   ((E ≠ 0 ∧ e = .returned (.int .i64 E) ∧ Well w' d g0 lb S' s' c (n + 6) N) ∨
    (E = 0 ∧ Okp b ∧ ((e = .returned (.int .i64 0) ∧ Well w' d g0 lb S' s' (c.plus b) (n + 6) N) ∨
     (e = .returned (.int .i64 20) ∧ s'.down = true ∧ Sys w' d g0 lb S' s' (c.seen s') ∧ ∃ c', Has w' d g0 s' (n + 6) N c' ∧ (c'.rs = c.rs ∨ c'.rs = c.rs ++ [b])))))
theorem append_play (w : World) (d g0 lb : Nat) (S : Nat → Prop) (s : Dk) (c : Lc) (n N : Nat) (h : Well w d g0 lb S s c n N) (hn : n ≤ 900000) (hN : N ≤ 100000) (S0 : Nat → Prop) (A : Option Addr) (k : Nat) (b : List UInt8) (hR : Rd w S0 A b) (hS0 : ∀ k, S0 k → k ≠ d ∧ k ≠ g0 ∧ k ≠ lb ∧ ¬ S k) (hbk : b.length ≤ k) (hbl65 : b.length ≤ 65536) :
    Calls Try.prog 19 #[.pointer (some ⟨lb, 0, none⟩), .slice A b.length k] w (AppP w d g0 lb S c n N b (appErr c.sz (16 + tot c.rs) b.length)) := by
  have hq := h.wk.ch.tot
  have hqs := h.wk.qsz
  have hz := h.sz
  by_cases h1 : b.length < 1
  · have he : appErr c.sz (16 + tot c.rs) b.length = 11 := by unfold appErr; rw [if_pos h1]
    rw [he]
    refine (append_size w d g0 lb S s c h.sys h.was h.up A b.length k (.inl h1)).mono ?_
    rintro e w' ⟨rfl, ⟨⟨S', hs', hS'⟩, hkp⟩⟩
    exact ⟨hkp, s, S', fun j hj => by rcases hS' j hj with e | e; exact .inl e; exact .inr e.1, .inl ⟨by decide, rfl, (h.of (by rw [seen_id h.was h.up]; exact hs')).mono (by omega)⟩⟩
  by_cases h2 : c.sz < 16 + tot c.rs + (9 + b.length)
  · have he : appErr c.sz (16 + tot c.rs) b.length = 21 := by unfold appErr; rw [if_neg h1, if_pos h2]
    rw [he]
    refine (append_space w d g0 lb S s c h.sys h.was h.up A b.length k (by omega) hbl65 hqs (by omega) (by omega)).mono ?_
    rintro e w' ⟨rfl, ⟨⟨S', hs', hS'⟩, hkp⟩⟩
    exact ⟨hkp, s, S', fun j hj => by rcases hS' j hj with e | e; exact .inl e; exact .inr e.1, .inl ⟨by decide, rfl, (h.of (by rw [seen_id h.was h.up]; exact hs')).mono (by omega)⟩⟩
  · have he : appErr c.sz (16 + tot c.rs) b.length = 0 := by unfold appErr; rw [if_neg h1, if_neg h2]
    rw [he]
    refine (append_log w d g0 lb S s c n N h hn (by omega) S0 A k b hR hS0 hbk (by omega) (by omega) (by omega)).mono ?_
    rintro e w' ⟨hkp, s', S', hS', h4⟩
    refine ⟨hkp, s', S', fun j hj => by rcases hS' j hj with e | e; exact .inl e; exact .inr e.1, .inr ⟨rfl, ⟨by omega, by omega⟩, ?_⟩⟩
    rcases h4 with ⟨e1, _, e3⟩ | ⟨_, e2, e3, e4, e5⟩
    · exact .inl ⟨e1, e3.mono (by omega)⟩
    · refine .inr ⟨e2, e3, e4, ?_⟩
      rcases e5 with e5 | e5
      · exact ⟨c, e5.mono (by omega), .inl rfl⟩
      · exact ⟨c.plus b, e5.mono (by omega), .inr rfl⟩
/-- Beginning anew, in a play. -/
def AnewP (w : World) (d g0 lb : Nat) (S : Nat → Prop) (c : Lc) (n N : Nat) (ns : List (List UInt8)) (E : Int) (e : Ending) (w' : World) : Prop :=
  Kp (fun k => k = d ∨ k = g0 ∨ k = lb ∨ S k) w w' ∧ ∃ s' S', (∀ k, S' k → S k ∨ w.heap.size ≤ k) ∧
   ((E ≠ 0 ∧ e = .returned (.int .i64 E) ∧ Well w' d g0 lb S' s' c (n + 6) N) ∨
    (E = 0 ∧ (∀ x ∈ ns, Okp x) ∧ ((e = .returned (.int .i64 0) ∧ Well w' d g0 lb S' s' (c.fresh ns) (n + 6) N) ∨
     (e = .returned (.int .i64 20) ∧ s'.down = true ∧ Sys w' d g0 lb S' s' (c.seen s') ∧ ∃ c', Has w' d g0 s' (n + 6) N c' ∧ (c'.rs = c.rs ∨ c'.rs = ns)))))
theorem anew_play (w : World) (d g0 lb : Nat) (S : Nat → Prop) (s : Dk) (c : Lc) (n N : Nat) (h : Well w d g0 lb S s c n N) (hn : n ≤ 900000) (hN : N ≤ 100000) (S0 : Nat → Prop) (A : Option Addr) (k : Nat) (ns : List (List UInt8)) (hR : RdL w S0 A ns) (hS0 : ¬ S0 lb) (hns : ns.length ≤ 100000) :
    Calls Try.prog 20 #[.pointer (some ⟨lb, 0, none⟩), .slice A ns.length k] w (AnewP w d g0 lb S c n N ns (newErr c.sz (c.g : Int) ns)) := by
  rw [newErr_eq (by have := h.wk.hsz; omega)]
  refine (anew_log w d g0 lb S s c n N h hn (by omega) S0 A k ns hR hS0 hns).mono ?_
  rintro e w' ⟨hkp, s', S', hS', h4⟩
  refine ⟨hkp, s', S', fun j hj => by rcases hS' j hj with e | e; exact .inl e; exact .inr e.1, ?_⟩
  rcases h4 with ⟨e1, e2, e3, e4⟩ | ⟨e1, e2, e3, ⟨e4, _, e6⟩ | ⟨_, e4, e5, e6, e7⟩⟩
  · exact .inl ⟨e1, e2, by rw [e3]; exact e4.mono (by omega)⟩
  · exact .inr ⟨e1, e2, .inl ⟨e4, e6.mono (by omega)⟩⟩
  · refine .inr ⟨e1, e2, .inr ⟨e4, e5, e6, ?_⟩⟩
    rcases e7 with e7 | e7
    · exact ⟨c, e7.mono (by omega), .inl rfl⟩
    · exact ⟨c.fresh ns, e7.mono (by omega), .inr rfl⟩
/-- Light, whatever its numbers. -/
theorem light_play (w : World) (d g0 : Nat) (s : Dk) (h : Dsk w d g0 s) (a b : Int) : Calls Try.prog 12 #[.pointer (some ⟨d, 0, none⟩), .int .i64 a, .int .i64 b] w fun e w' => (∃ z : Int, e = .returned (.int .i64 z)) ∧ But d g0 w w' ∧ ∃ s', Dsk w' d g0 s' ∧ (s' = s ∨ (s' = s.lit a b ∧ 0 ≤ a ∧ 0 ≤ b)) := by
  by_cases hb : a < 0 ∨ b < 0
  · refine (light_bad w d a b hb).mono ?_
    rintro e w' ⟨rfl, rfl⟩
    exact ⟨⟨_, rfl⟩, But.refl _ _ _, s, h, .inl rfl⟩
  · refine (light_ok w d g0 s h a b (by omega) (by omega)).mono ?_
    rintro e w' ⟨rfl, h1, h2, _⟩
    exact ⟨⟨_, rfl⟩, h2, _, h1, .inr ⟨rfl, by omega, by omega⟩⟩
theorem Well.lit {w w' : World} {d g0 lb : Nat} {S : Nat → Prop} {s s' : Dk} {c : Lc} {n N : Nat} (h : Well w d g0 lb S s c n N) (hd : Dsk w' d g0 s') (hb : But d g0 w w') {a b : Int} (ha : a ≤ 9223372036854775807) (hs : s' = s ∨ (s' = s.lit a b ∧ 0 ≤ a ∧ 0 ≤ b)) : Well w' d g0 lb S s' c n N := by
  rcases hs with rfl | ⟨rfl, h1, h2⟩
  · exact ⟨h.sys.disk hd hb, h.ok, h.len, h.sz, h.up, h.was, h.wk, h.bl⟩
  · exact ⟨h.sys.disk hd hb, okn_lit h.ok h1 ha h2, h.len, h.sz, h.up, h.was, h.wk, h.bl⟩
theorem Has.lit {w w' : World} {d g0 : Nat} {s s' : Dk} {c : Lc} {n N : Nat} (h : Has w d g0 s n N c) (hd : Dsk w' d g0 s') {a b : Int} (ha : a ≤ 9223372036854775807) (hs : s' = s ∨ (s' = s.lit a b ∧ 0 ≤ a ∧ 0 ≤ b)) : Has w' d g0 s' n N c ∧ s'.down = s.down := by
  rcases hs with rfl | ⟨rfl, h1, h2⟩
  · exact ⟨⟨hd, h.ok, h.len, h.sz, h.wk⟩, rfl⟩
  · exact ⟨⟨hd, okn_lit h.ok h1 ha h2, h.len, h.sz, h.wk⟩, rfl⟩
theorem Well.tight {w : World} {d g0 lb : Nat} {S : Nat → Prop} {s : Dk} {c : Lc} {n N : Nat} (h : Well w d g0 lb S s c n N) : Well w d g0 lb (fun j => S j ∧ j < w.heap.size) s c n N := ⟨h.sys.tight, h.ok, h.len, h.sz, h.up, h.was, h.wk, h.bl⟩
theorem Bs.lst {w wr : World} {d g0 lb k : Nat} {S : Nat → Prop} {A B : Option Addr} {n c m e : Nat} {want may : List (List UInt8)} (h : Bs w d g0 lb k S (.slice A n c) (.slice B m e) want may wr) : RdL wr (fun _ => True) A want ∧ RdL wr (fun _ => True) B may := by
  obtain ⟨A', c', e1, _, h1⟩ := h.wl
  obtain ⟨B', e', e2, _, h2⟩ := h.ml
  injection e1 with e1 _ _
  injection e2 with e2 _ _
  exact ⟨e1 ▸ h1.more (fun _ _ => trivial), e2 ▸ h2.more (fun _ _ => trivial)⟩
end Go.Proofs.Ytaoaegkfejlgkaa.Dsk
