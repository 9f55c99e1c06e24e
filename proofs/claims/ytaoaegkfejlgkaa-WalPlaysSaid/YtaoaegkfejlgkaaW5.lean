/-
  Rows of one's own: where the row lies behind an append; lists of payloads in memory; the contract of add of package wal.
-/
import Derived.Test.YtaoaegkfejlgkaaW4
namespace Go.Proofs.Ytaoaegkfejlgkaa.Dsk
open Go.RowKit
/-- append onto a row of one's own: the row lies where it lay, or in a block that is new. -/
theorem run_append_at {P : Program} (w : World) (base : Nat) (t ty e : TypeId) (i : TypeInfo) (z : Value) (size bytes : Nat) (ht : P.underlying t = some (.slice e)) (hi : P.info? e = some i) (hz : i.zero = some z)
    (hsize : i.size = size) (hby : i.bytes = bytes) (hzs : z.cells.size = size) (hsz : 0 < size)
    (v : Value) (n : Nat) (xs : List Value) (hown : w.ownsRow base e size v n xs)
    (a : Addr) (m c : Nat) (news : List Value) (hl : news.length = m * size) (hnews : ∀ j u, news[j]? = some u → w.cell? (a.add j) = some u) (h1 : ∀ u ∈ news, u.oneCell' = true)
    (h63 : n + m ≤ maxLen) (hbytes : (n + m) * bytes ≤ 140737488355328) (hbase : base ≤ w.heap.size) (hm : 0 < m) :
    ∃ v' w', (Builtin.append_ #[t, t] ty #[v, .slice (some a) m c]).run P w = .ok v' w' ∧ w'.ownsRow base e size v' (n + m) (xs ++ news) ∧ w.grownBy w' v.ownBlock ∧ (v'.ownBlock = v.ownBlock ∨ v'.ownBlock = some w.heap.size) := by
  obtain ⟨v', w', hr, h2, h3, _⟩ := run_append_own (P := P) w base t ty e i z size bytes ht hi hz hsize hby hzs hsz v n xs hown a m c news hl hnews h1 h63 hbytes hbase
  refine ⟨v', w', hr, h2, h3, ?_⟩
  subst hsize
  subst hby
  have hsmall : n + m ≤ 9223372036854775807 := by simp only [maxLen] at h63; omega
  rcases hown.2 with ⟨rfl, rfl⟩ | ⟨g, cap, cur, rfl, hbg, hg, hnc, hcm, hcs, htake⟩
  · have hr2 := run_append_nil (P := P) w t ty e i z ht hi hz a m c news hl hnews hm (by omega) (by have hb := hbytes; simp only [Nat.zero_add] at hb; omega)
    rw [hr] at hr2
    injection hr2 with e1 e2
    exact .inr (by rw [e1]; rfl)
  · by_cases hroom : n + m ≤ cap
    · have hfit : n * i.size + news.length ≤ cur.size := by rw [hl, hcs, ← Nat.add_mul]; exact Nat.mul_le_mul_right _ hroom
      have hr2 := run_append_room (P := P) w t ty e i ht hi g n cap cur hg a m c news hl hnews h1 hroom hfit
      rw [hr] at hr2
      injection hr2 with e1 e2
      exact .inl (by rw [e1]; rfl)
    · have holds : ∀ j u, xs[j]? = some u → w.cell? ((⟨g, 0, none⟩ : Addr).add j) = some u := hown.cells (g := g) rfl
      have hr2 := run_append_grow (P := P) w t ty e i z ht hi hz ⟨g, 0, none⟩ n cap xs hown.1 holds a m c news hl hnews (by omega) (by omega) (growslice_fits (by omega) hbytes)
      rw [hr] at hr2
      injection hr2 with e1 e2
      exact .inr (by rw [e1]; rfl)
theorem wpList_append_at {P : Program} {w : World} {ops : Array Oper} {rest : List Oper} {o : Oper} {a : Act} {Q : Exit → Act → World → Prop} (hgd : o.guard = none) (s x : Operand) (t : TypeId)
    (ho : o.op = .call { callee := .builtin .append, args := #[s, x], argTypes := #[t, t] })
    (base : Nat) (e : TypeId) (size bytes : Nat) (z : Value) (ht : P.underlying t = some (.slice e)) (hinfo : (P.info? e).map (fun i => (i.zero, i.size, i.bytes)) = some (some z, size, bytes)) (hzs : z.cells.size = size) (hsz : 0 < size) (hby : bytes ≤ 1000)
    (v : Value) (n : Nat) (xs : List Value) (hs : a.eval s = v) (hown : w.ownsRow base e size v n xs)
    (ad : Addr) (m c : Nat) (news : List Value) (hx : a.eval x = .slice (some ad) m c) (hl : news.length = m * size) (hnews : ∀ j u, news[j]? = some u → w.cell? (ad.add j) = some u) (h1 : ∀ u ∈ news, u.oneCell' = true)
    (hb : n + m ≤ 2000001) (hbase : base ≤ w.heap.size) (hm : 0 < m)
    (h : ∀ v' w', Hid (w'.ownsRow base e size v' (n + m) (xs ++ news)) → Hid (w.grownBy w' v.ownBlock) → Hid (v'.ownBlock = v.ownBlock ∨ v'.ownBlock = some w.heap.size) → wpList P ops Q rest (a.put o.dst v') w') : wpList P ops Q (o :: rest) a w := by
  obtain ⟨i0, hi0, hz0, hz1, hz2⟩ := info_parts hinfo
  have hbt : (n + m) * bytes ≤ 140737488355328 := by
    have : (n + m) * bytes ≤ 2000001 * 1000 := Nat.mul_le_mul hb hby
    omega
  obtain ⟨v', w', hr, h2, h3, h4⟩ := run_append_at (P := P) w base t o.type e i0 z size bytes ht hi0 hz0 hz1 hz2 hzs hsz v n xs hown ad m c news hl hnews h1 (by unfold maxLen; omega) hbt hbase hm
  refine wpList_plain hgd fun _ hK => ?_
  unfold Oper.wp execOp
  simp only [ho, resolve, invoke, builtin, Sem.run_bind, Sem.run_pure, Result.andThen_ok, List.map_toArray, List.map_cons, List.map_nil, hs, hx, hr]
  exact hK _ _ (h v' w' (Lib.hid h2) (Lib.hid h3) (Lib.hid h4))
/-! Lists of payloads. -/
/-- One payload's slice. -/
def PayAt (w : World) (S : Nat → Prop) (rb : Option Nat) (u : Value) (x : List UInt8) : Prop :=
  ∃ q c, u = .slice (some ⟨q, 0, none⟩) x.length c ∧ 1 ≤ x.length ∧ x.length ≤ 65536 ∧ x.length ≤ c ∧ S q ∧ rb ≠ some q ∧ Rd w (· = q) (some ⟨q, 0, none⟩) x
structure Recs (w : World) (S : Nat → Prop) (rv : Value) (rs : List (List UInt8)) : Prop where
  ex : ∃ xs, w.ownsRow 0 33 1 rv rs.length xs ∧ ∀ (i : Nat) x, rs[i]? = some x → ∃ u, xs[i]? = some u ∧ PayAt w S rv.ownBlock u x
  own : ∀ k, rv.ownBlock = some k → S k
section
variable {w w' : World} {S S' : Nat → Prop} {rv : Value} {rs : List (List UInt8)}
theorem PayAt.keep {rb : Option Nat} {u : Value} {x : List UInt8} (h : PayAt w S rb u x) (hk : ∀ k, S k → k < w.heap.size → rb ≠ some k → w'.heap[k]? = w.heap[k]?) (hz : w.heap.size ≤ w'.heap.size) : PayAt w' S rb u x := by
  obtain ⟨q, c, h1, h2, h3, h4, h5, h6, h7⟩ := h
  refine ⟨q, c, h1, h2, h3, h4, h5, h6, fun hl => ?_⟩
  obtain ⟨ad, e, a1, a2, a3⟩ := h7 hl
  refine ⟨ad, e, a1, Nat.lt_of_lt_of_le a2 hz, fun j u hu => ?_⟩
  rw [← a3 j u hu]
  refine World.cell?_of_block ?_
  rw [block_add]
  have a1' : ad.block = q := a1
  exact hk _ (a1' ▸ h5) a2 (by rw [a1']; exact h6)
theorem PayAt.more {rb : Option Nat} {u : Value} {x : List UInt8} (h : PayAt w S rb u x) (hS : ∀ k, S k → S' k) : PayAt w S' rb u x := by
  obtain ⟨q, c, h1, h2, h3, h4, h5, h6, h7⟩ := h
  exact ⟨q, c, h1, h2, h3, h4, hS _ h5, h6, h7⟩
theorem PayAt.lt {rb : Option Nat} {u : Value} {x : List UInt8} (h : PayAt w S rb u x) : ∃ q c, u = .slice (some ⟨q, 0, none⟩) x.length c ∧ q < w.heap.size ∧ S q := by
  obtain ⟨q, c, h1, h2, h3, h4, h5, h6, h7⟩ := h
  obtain ⟨ad, e, a1, a2, a3⟩ := h7 (by omega)
  have a1' : ad.block = q := a1
  exact ⟨q, c, h1, a1' ▸ a2, h5⟩
theorem row_keep {base : Nat} {e : TypeId} {size n : Nat} {v : Value} {xs : List Value} (h : w.ownsRow base e size v n xs) (hb : ∀ k, v.ownBlock = some k → w'.heap[k]? = w.heap[k]?) : w'.ownsRow base e size v n xs := by
  obtain ⟨h1, h2⟩ := h
  refine ⟨h1, ?_⟩
  rcases h2 with h2 | ⟨g, cap, cur, hv, hg, hh, hr⟩
  · exact .inl h2
  · exact .inr ⟨g, cap, cur, hv, hg, (hb g (by rw [hv]; rfl)).trans hh, hr⟩
theorem Recs.keep (h : Recs w S rv rs) (hk : ∀ k, S k → k < w.heap.size → w'.heap[k]? = w.heap[k]?) (hz : w.heap.size ≤ w'.heap.size) : Recs w' S rv rs := by
  obtain ⟨xs, h1, h2⟩ := h.ex
  refine ⟨⟨xs, row_keep h1 (fun k e => hk k (h.own k e) (h1.lt k e).2), fun i x hx => ?_⟩, h.own⟩
  obtain ⟨u, a, b⟩ := h2 i x hx
  exact ⟨u, a, b.keep (fun k a b _ => hk k a b) hz⟩
theorem Recs.old (h : Recs w S rv rs) (hb : Below w.heap.size w w') : Recs w' S rv rs := h.keep (fun k _ hk => hb.block k hk) hb.size
theorem Recs.below {B : Nat} (h : Recs w S rv rs) (hb : Below B w w') (hS : ∀ k, S k → k < B) : Recs w' S rv rs := h.keep (fun k hk _ => hb.block k (hS k hk)) hb.size
theorem Recs.more (h : Recs w S rv rs) (hS : ∀ k, S k → S' k) : Recs w S' rv rs := by
  obtain ⟨xs, h1, h2⟩ := h.ex
  refine ⟨⟨xs, h1, fun i x hx => ?_⟩, fun k e => hS k (h.own k e)⟩
  obtain ⟨u, a, b⟩ := h2 i x hx
  exact ⟨u, a, b.more hS⟩
theorem Recs.nil (w : World) (S : Nat → Prop) : Recs w S (.slice none 0 0) [] := ⟨⟨[], ⟨rfl, .inl ⟨rfl, rfl⟩⟩, fun i x hx => by simp at hx⟩, fun k e => by simp [Value.ownBlock] at e⟩
theorem Recs.form (h : Recs w S rv rs) : ∃ A c, rv = .slice A rs.length c := by
  obtain ⟨xs, h1, _⟩ := h.ex
  rcases h1.2 with ⟨h2, h3⟩ | ⟨g, cap, cur, hv, _⟩
  · exact ⟨none, 0, by rw [h2, h3]⟩
  · exact ⟨_, cap, hv⟩
end
theorem infoRow : (Try.prog.info? 33).map (fun i => (i.zero, i.size, i.bytes)) = some (some (.slice none 0 0), 1, 24) := by kernel_rfl
/-- But for the blocks for which S holds all that was there is as it was. -/
structure Kp (S : Nat → Prop) (w w' : World) : Prop where
  os : w'.os = w.os
  tape : w'.tape = w.tape
  output : w'.output = w.output
  size : w.heap.size ≤ w'.heap.size
  block : ∀ k, k < w.heap.size → ¬ S k → w'.heap[k]? = w.heap[k]?
section
variable {S S' : Nat → Prop} {w w' w2 : World}
theorem Kp.refl (S : Nat → Prop) (w : World) : Kp S w w := ⟨rfl, rfl, rfl, Nat.le_refl _, fun _ _ _ => rfl⟩
theorem Kp.trans (h : Kp S w w') (k : Kp S' w' w2) (hS : ∀ i, i < w.heap.size → S' i → S i) : Kp S w w2 :=
  ⟨k.os.trans h.os, k.tape.trans h.tape, k.output.trans h.output, Nat.le_trans h.size k.size, fun i hi a => (k.block i (Nat.lt_of_lt_of_le hi h.size) (fun c => a (hS i hi c))).trans (h.block i hi a)⟩
theorem Kp.mono (h : Kp S w w') (hS : ∀ k, k < w.heap.size → S k → S' k) : Kp S' w w' := ⟨h.os, h.tape, h.output, h.size, fun k hk a => h.block k hk (fun c => a (hS k hk c))⟩
theorem Kp.of_below {B : Nat} (h : Below B w w') : Kp (B ≤ ·) w w' := ⟨h.os, h.tape, h.output, h.size, fun k _ a => h.block k (by omega)⟩
theorem Kp.of_but {d g : Nat} (h : But d g w w') : Kp (fun k => k = d ∨ k = g) w w' := ⟨h.os, h.tape, h.output, h.size, fun k hk a => h.block k hk (fun c => a (.inl c)) (fun c => a (.inr c))⟩
theorem Kp.below {B : Nat} (h : Kp S w w') (hB : B ≤ w.heap.size) (hS : ∀ k, S k → B ≤ k) : Below B w w' := ⟨h.os, h.tape, h.output, h.size, fun k hk => h.block k (by omega) (fun c => by have := hS k c; omega)⟩
theorem Kp.old (h : Below w.heap.size w w') : Kp S w w' := ⟨h.os, h.tape, h.output, h.size, fun k hk _ => h.block k hk⟩
theorem Kp.put (h : Kp S w w') (g i : Nat) (u : Value) (hg : S g) : Kp S w (w'.setCell ⟨g, i, none⟩ u) :=
  h.trans (S' := S) ⟨rfl, rfl, rfl, by simp [World.setCell], fun k _ a => Below.heap_setCell _ _ _ _ (fun e => a (by rw [show k = g from e]; exact hg))⟩ (fun _ _ c => c)
theorem Kp.drew (h : Kp S w w') : Kp S w w'.drew := ⟨h.os, h.tape, h.output, h.size, h.block⟩
end
end Go.Proofs.Ytaoaegkfejlgkaa.Dsk
