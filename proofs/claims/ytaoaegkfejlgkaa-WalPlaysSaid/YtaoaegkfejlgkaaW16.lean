/-
  The contract of change of package wal: the other half is written anew.
-/
import Derived.Test.YtaoaegkfejlgkaaL5
import Derived.Test.YtaoaegkfejlgkaaWDisk3
import Derived.Deep.CutRange
namespace Go.Proofs.Ytaoaegkfejlgkaa.Dsk
open Go.RowKit
theorem recsB_take_le (g : Nat) : ∀ (rs : List (List UInt8)) (p k : Nat), (recsB g p (rs.take k)).length ≤ (recsB g p rs).length
  | [], p, k => by simp [recsB]
  | x :: r, p, 0 => by simp [recsB]
  | x :: r, p, k + 1 => by
    simp only [List.take_succ_cons, recsB, List.length_append]
    have := recsB_take_le g r (p + (9 + x.length)) k
    omega
theorem recsB_take_lt (g : Nat) (rs : List (List UInt8)) (p k : Nat) (x : List UInt8) (hx : rs[k]? = some x) : (recsB g p (rs.take k)).length + (9 + x.length) ≤ (recsB g p rs).length ∧ recsB g p (rs.take (k + 1)) = recsB g p (rs.take k) ++ recB g (p + (recsB g p (rs.take k)).length) x 1 ∧ rs.take (k + 1) = rs.take k ++ [x] := by
  have ht : rs.take (k + 1) = rs.take k ++ [x] := by rw [List.take_add_one, hx]; rfl
  have h1 := recsB_snoc g (rs.take k) p x
  rw [← ht] at h1
  have h2 := recsB_take_le g rs p (k + 1)
  rw [h1, List.length_append, recB_length] at h2
  exact ⟨h2, h1, ht⟩
theorem recsB_count (g : Nat) : ∀ (rs : List (List UInt8)) (p : Nat), rs.length ≤ (recsB g p rs).length
  | [], p => by simp
  | x :: r, p => by
    simp only [recsB, List.length_append, List.length_cons, recB_length]
    have := recsB_count g r (p + (9 + x.length))
    omega
/-- append(x, y...) of writes, the second ones anywhere but in the first row's own block. -/
theorem wpList_append_ws2 {w : World} {ops : Array Oper} {rest : List Oper} {o : Oper} {a : Act} {Q : Exit → Act → World → Prop} (hgd : o.guard = none) (s x : Operand)
    (ho : o.op = .call { callee := .builtin .append, args := #[s, x], argTypes := #[60, 60] })
    (S : Nat → Prop) (v vx : Value) (ws ws' : List Wr) (hs : a.eval s = v) (hx : a.eval x = vx) (hv : WRow w S v ws) (hvx : WRow w (fun k => S k ∧ v.ownBlock ≠ some k) vx ws') (hne : 0 < ws'.length) (hm : ws.length + ws'.length ≤ 1000) (hnew : ∀ k, w.heap.size ≤ k → S k)
    (h : ∀ v' w', Hid (WRow w' S v' (ws ++ ws')) → Hid (w.grownBy w' v.ownBlock) → Hid (v'.ownBlock = v.ownBlock ∨ v'.ownBlock = some w.heap.size) → Hid (∃ A c, v' = .slice A (ws.length + ws'.length) c) → wpList Try.prog ops Q rest (a.put o.dst v') w') : wpList Try.prog ops Q (o :: rest) a w := by
  obtain ⟨us, hl, h1, h2⟩ := hv.ex
  obtain ⟨us', hl', h1', h2'⟩ := hvx.ex
  have h3' : ∀ (i : Nat) a b, ws'[i]? = some (a, b) → ∃ u, us'[i]? = some (a, u) ∧ BytesAt w S v.ownBlock u b := fun i a b hi => by
    obtain ⟨u, hu, B, c, e, h5, h6⟩ := h2' i a b hi
    exact ⟨u, hu, B, c, e, h5, h6.more (fun k hk => ⟨hk.1.1, hk.1.2⟩)⟩
  have hcells := fun p => World.ownsRow.cells (g := p) h1'
  rcases h1'.2 with ⟨e, h3⟩ | ⟨g, cap, cur, e, _⟩
  · omega
  subst e
  refine wpList_append_at hgd s x 60 ho 0 71 2 32 _ Try.underlying60 infoWr rfl (by decide) (by decide) v ws.length (wsCells us) hs h1 ⟨g, 0, none⟩ ws'.length cap (wsCells us') hx (by rw [wsCells_length, hl']) (hcells g rfl) ?_ (by omega) (Nat.zero_le _) hne ?_
  · intro u hu
    simp only [wsCells, List.mem_flatMap] at hu
    obtain ⟨q, hq, hu⟩ := hu
    simp only [List.mem_cons, List.not_mem_nil, or_false] at hu
    rcases hu with rfl | rfl
    · rfl
    · obtain ⟨i, hi⟩ := List.getElem?_of_mem hq
      have hil := (List.getElem?_eq_some_iff.1 hi).1
      obtain ⟨u, hu, hb⟩ := h3' i (ws'[i]'(by omega)).1 (ws'[i]'(by omega)).2 (by rw [List.getElem?_eq_getElem (by omega)])
      rw [hi] at hu
      injection hu with hu
      rw [show q.2 = u from by rw [hu]]
      exact hb.one
  · intro v' w' ho' hg' hw'
    have hlt := ho'.out.lt
    have hrb : ∀ {u : Value} {b : List UInt8}, BytesAt w S v.ownBlock u b → BytesAt w' S v'.ownBlock u b := fun {u b} hb => by
      obtain ⟨B, c, e, h5, h6⟩ := hb
      refine ⟨B, c, e, h5, fun hlen => ?_⟩
      obtain ⟨ad, e, a1, a2, a3⟩ := h6 hlen
      refine ⟨ad, e, ⟨a1.1, fun e2 => ?_⟩, Nat.lt_of_lt_of_le a2 hg'.out.size, fun j u hu => ?_⟩
      · rcases hw'.out with h7 | h7
        · exact a1.2 (h7 ▸ e2)
        · rw [h7] at e2; injection e2 with e2; omega
      · rw [← a3 j u hu]
        exact World.cell?_of_block (by rw [block_add]; exact hg'.out.block _ a2 (fun e => a1.2 e.symm))
    refine h v' w' (Lib.hid ⟨⟨us ++ us', by simp [hl, hl'], by rw [List.length_append, wsCells_append]; exact ho'.out, fun i a b hi => ?_⟩, fun k e => ?_⟩) hg' hw' (Lib.hid ?_)
    · by_cases hil : i < ws.length
      · rw [List.getElem?_append_left hil] at hi
        obtain ⟨u, hu, hb⟩ := h2 i a b hi
        exact ⟨u, by rw [List.getElem?_append_left (by omega)]; exact hu, hrb hb⟩
      · rw [List.getElem?_append_right (by omega)] at hi
        obtain ⟨u, hu, hb⟩ := h3' _ a b hi
        exact ⟨u, by rw [List.getElem?_append_right (by omega), hl]; exact hu, hrb hb⟩
    · rcases hw'.out with h7 | h7
      · exact hv.own k (h7 ▸ e)
      · rw [h7] at e; injection e with e; exact hnew k (by omega)
    · obtain ⟨A, c, e⟩ := row_slice ho'.out
      exact ⟨A, c, e⟩
/-- While the records are gathered. -/
structure ChInv (w : World) (st g : Nat) (ns : List (List UInt8)) (k : Nat) (bv : Value) (wr : World) : Prop where
  con : ∃ rv, Blk wr w.heap.size 59 [.int .i64 (st : Int), .int .i64 (g : Int), rv, .int .i64 ((16 + (recsB g 16 (ns.take k)).length : Nat) : Int)] ∧ Recs wr (fun i => w.heap.size < i ∧ bv.ownBlock ≠ some i) rv (ns.take k)
  row : Own wr (w.heap.size + 1) bv (recsB g 16 (ns.take k))
  bel : Below w.heap.size w wr
theorem Own.form {w : World} {base : Nat} {v : Value} {l : List UInt8} (h : Own w base v l) : ∃ A c, v = .slice A l.length c := row_slice h
theorem Own.old {w w' : World} {base : Nat} {v : Value} {l : List UInt8} (h : Own w base v l) (hb : Below w.heap.size w w') : Own w' base v l := row_keep h (fun k e => hb.block k (h.lt k e).2)
/-- A record was appended to the block, and its payload's copy is added. -/
theorem ChInv.next {w wr w5 w7 w8 : World} {st g k : Nat} {ns : List (List UInt8)} {bv bv' rv' : Value} {x : List UInt8} (h : ChInv w st g ns k bv wr) (hx : ns[k]? = some x)
    (hO : Own w5 (w.heap.size + 1) bv' (recsB g 16 (ns.take k) ++ recB g (16 + (recsB g 16 (ns.take k)).length) x 1)) (h7 : Below w5.heap.size w5 w7)
    (hr8 : Recs w8 (fun i => (w.heap.size < i ∧ bv'.ownBlock ≠ some i) ∨ (w7.heap.size ≤ i ∧ i < w8.heap.size)) rv' (ns.take k ++ [x]))
    (hb8 : Blk w8 w.heap.size 59 [.int .i64 (st : Int), .int .i64 (g : Int), rv', .int .i64 (((16 + (recsB g 16 (ns.take k)).length) + (9 + x.length) : Nat) : Int)])
    (hz : wr.heap.size ≤ w7.heap.size) (rv : Value) (hrv : ∀ i, rv.ownBlock = some i → w.heap.size < i ∧ bv'.ownBlock ≠ some i) (hk8 : Kp (fun i => i = w.heap.size ∨ rv.ownBlock = some i) w7 w8) (hbel : Below w.heap.size w w7) : ChInv w st g ns (k + 1) bv' w8 := by
  obtain ⟨h1, h2, h3⟩ := recsB_take_lt g ns 16 k x hx
  have hlt := hO.lt
  have hsz7 : w5.heap.size ≤ w7.heap.size := h7.size
  have hO7 := hO.old h7
  refine ⟨⟨rv', ?_, ?_⟩, ?_, ?_⟩
  · rw [h2, List.length_append, recB_length, show 16 + ((recsB g 16 (ns.take k)).length + (9 + x.length)) = (16 + (recsB g 16 (ns.take k)).length) + (9 + x.length) by omega]
    exact hb8
  · rw [h3]
    refine hr8.more (fun i hi => ?_)
    rcases hi with hi | hi
    · exact hi
    · have := hbel.size
      have hbs := hb8.lt
      refine ⟨?_, fun e => by have := (hlt i e).2; omega⟩
      obtain ⟨rv0, c1, _⟩ := h.con
      have hl := c1.lt
      omega
  · rw [h2]
    refine row_keep hO7 (fun i e => hk8.block i (hO7.lt i e).2 ?_)
    rintro (e2 | e2)
    · have := (hlt i e).1; omega
    · exact (hrv i e2).2 e
  · exact hbel.trans (hk8.below hbel.size (by rintro i (e | e); omega; have := (hrv i e).1; omega))
theorem anewWs_shape (L : List UInt8) (sz o g : Nat) (ns : List (List UInt8)) : anewWs L sz o g ns = [(o + 8, [0])] ++ ((if blankB (half L (o + 16) (sz - 16)) then [] else [(o + 16, List.replicate (sz - 16) 0)]) ++ ((if recsB g 16 ns = [] then [] else [(o + 16, recsB g 16 ns)]) ++ [(o, headB g 0), (o + 8, [1])])) := rfl
/-- One write in a row that was made for it. -/
theorem WRow.one (w : World) (S : Nat → Prop) (a : Nat) (za : Int) (hza : za = (a : Int)) (B : Option Addr) (n c : Nat) (b : List UInt8) (hn : n = b.length) (hbc : b.length ≤ c) (hR : Rd w S B b) (hS : S w.heap.size) (p : Nat) (hp : p = w.heap.size) : WRow (w.alloc (.cells #[.int .i64 za, .slice B n c] 71)) S (.slice (some ⟨p, 0, none⟩) 1 1) [(a, b)] := by
  subst hn hp hza
  exact WRow.new w S [(a, .slice B b.length c)] [(a, b)] #[.int .i64 (a : Int), .slice B b.length c] (by simp [wsCells]) rfl (by simp) hS (fun i x y hi => by
    rcases i with _ | i
    · simp at hi
      obtain ⟨rfl, rfl⟩ := hi
      exact ⟨_, rfl, B, c, rfl, hbc, hR⟩
    · simp at hi) 1 rfl
/-- What change hands back. -/
def ChR (w : World) (d g0 lb : Nat) (S : Nat → Prop) (c : Lc) (T : Int × Dk) (o g : Nat) (ns : List (List UInt8)) (q : Nat) (e : Ending) (w' : World) : Prop :=
  e = .returned (.int .i64 T.1) ∧ ((T.1 = 0 ∧ Aft w d g0 lb S T.2 { c.seen T.2 with st := o, g := g, rs := ns, q := q } w') ∨ (T.1 ≠ 0 ∧ Aft w d g0 lb S T.2 (c.seen T.2) w'))
set_option maxRecDepth 100000
set_option maxHeartbeats 8000000 in
theorem change_any (w : World) (d g0 lb : Nat) (S : Nat → Prop) (s : Dk) (c : Lc) (h : Sys w d g0 lb S s c) (n : Nat) (ho : s.okn n) (hn : n ≤ 1000000) (hup : s.down = false) (S0 : Nat → Prop) (A : Option Addr) (k : Nat) (ns : List (List UInt8)) (hR : RdL w S0 A ns) (hns : ∀ x ∈ ns, 1 ≤ x.length ∧ x.length ≤ 65536) (o : Nat) (hoo : o = c.sz - c.st) (hst : c.st ≤ c.sz) (hs1 : 500 ≤ c.sz) (hs2 : c.sz ≤ 500000) (hL : o + c.sz ≤ s.l.length) (hlen : s.l.length ≤ 1000000) (hq : 16 + (recsB (c.g + 1) 16 ns).length ≤ c.sz) (hg : c.g + 1 ≤ 2147483647) :
    Calls Try.prog 34 #[.pointer (some ⟨lb, 0, none⟩), .slice A ns.length k] w (ChR w d g0 lb S c (perf s (anewWs s.l c.sz o (c.g + 1) ns)) o (c.g + 1) ns (16 + (recsB (c.g + 1) 16 ns).length)) := by
  obtain ⟨A', k', hb, hr⟩ := h.log.ex
  have H := Lib.hid h
  have HB := Lib.hid hb
  have HRL := Lib.hid hR
  have HNS := Lib.hid hns
  obtain ⟨sz, hsz⟩ : ∃ sz, sz = c.sz := ⟨_, rfl⟩
  obtain ⟨st, hst'⟩ : ∃ st, st = c.st := ⟨_, rfl⟩
  obtain ⟨g, hgg⟩ : ∃ g, g = c.g := ⟨_, rfl⟩
  obtain ⟨g1, hg1⟩ : ∃ g1, g1 = c.g + 1 := ⟨_, rfl⟩
  obtain ⟨N, hN⟩ : ∃ N, N = ns.length := ⟨_, rfl⟩
  have c0 : w.cell? ⟨lb, 0, none⟩ = some (.pointer (some ⟨d, 0, none⟩)) := hb.cell 0
  have c1 : w.cell? ⟨lb, 1, none⟩ = some (.int .i64 (sz : Int)) := by rw [hsz]; exact hb.cell 1
  have c3 : w.cell? ⟨lb, 3, none⟩ = some (.int .i64 (st : Int)) := by rw [hst']; exact hb.cell 3
  have c4 : w.cell? ⟨lb, 4, none⟩ = some (.int .i64 (g : Int)) := by rw [hgg]; exact hb.cell 4
  have hlb := hb.lt
  have q1 : IntKind.i64.wrap ((sz : Int) - st) = (o : Int) := by rw [IntKind.wrap_i64]; omega
  have q2 : IntKind.i64.wrap ((g : Int) + 1) = (g1 : Int) := by rw [IntKind.wrap_i64]; omega
  rw [← hg1] at hq hg ⊢
  rw [← hsz] at hq hst hs1 hs2 hL ⊢
  rw [← hN]
  have HQ := Lib.hid hq
  have HG := Lib.hid hg
  have HS1 := Lib.hid hs1
  have HS2 := Lib.hid hs2
  have HLL := Lib.hid hL
  have HLN := Lib.hid hlen
  have HN := Lib.hid hN
  have HSZ := Lib.hid hsz
  have HO2 := Lib.hid hoo
  clear h hb hr hR hns hst hs1 hs2 hL hlen hq hg hsz hst' hgg hg1 hN hoo
  go_enter Try.func34, Try.ntmps34
  go_wp2
  go_region
  go_wp2
  have HI : Hid (ChInv w o g1 ns 0 (.slice none 0 0) (w.alloc (.cells #[.int .i64 (o : Int), .int .i64 (g1 : Int), .slice none 0 0, .int .i64 16] 59)).drew) := Lib.hid
    ⟨⟨.slice none 0 0, Blk.new w _ _ _ rfl, Recs.nil _ _⟩, ⟨rfl, .inl ⟨rfl, rfl⟩⟩, ((Below.refl _ _).alloc (Nat.le_refl _) _).drew⟩
  go_loopw [6, 33] (fun b i wr => ∃ k : Nat, k ≤ N ∧ i = .int .i64 (k : Int) ∧ ChInv w o g1 ns k b wr) (fun _ i _ => N - (intOf i).toNat)
  case atStart => exact ⟨0, Nat.zero_le _, rfl, HI.out⟩
  case round =>
    obtain ⟨j, hj, rfl, hinv⟩ := hrel
    clear HI
    have HI := Lib.hid hinv
    clear hinv
    by_cases hlt : j < N
    · obtain ⟨x, hx⟩ : ∃ x, ns[j]? = some x := ⟨_, List.getElem?_eq_getElem (by have := HN.out; omega)⟩
      have HLT := Lib.hid hlt
      have q3 : IntKind.i64.wrap ((j : Int) + 1) = (j : Int) + 1 := by rw [IntKind.wrap_i64]; have := HN.out; have := recsB_count g1 ns 16; have := HQ.out; have := HS2.out; omega
      obtain ⟨ad, B, cx, rfl, _, hb1, hcell, hxc, hrx⟩ := HRL.out j x hx
      have hx12 := HNS.out x (List.mem_of_getElem? hx)
      obtain ⟨hl1, hl2, hl3⟩ := recsB_take_lt g1 ns 16 j x hx
      have hcw : wr.cell? (ad.add j) = some (.slice B x.length cx) := (HI.out.bel.cell (by rw [block_add]; exact hb1)).trans hcell
      obtain ⟨bd, rfl, _⟩ := hrx (by omega)
      obtain ⟨rv, hcon, hrecs⟩ := HI.out.con
      obtain ⟨bA, bc', hbv⟩ := HI.out.row.form
      have HRX : Hid (∀ W, Below w.heap.size w W → Rd W S0 (some bd) x) := Lib.hid (fun W hW => hrx.old hW)
      obtain ⟨L, hL⟩ : ∃ L, L = (recsB g1 16 (ns.take j)).length := ⟨_, rfl⟩
      have HLl := Lib.hid hL
      have HHL : Hid (L + (9 + x.length) ≤ 499984) := Lib.hid (by have := HQ.out; have := HS2.out; omega)
      have HX := Lib.hid hx
      have HX12 := Lib.hid hx12
      have HCON : Hid (Blk wr w.heap.size 59 [.int .i64 (o : Int), .int .i64 (g1 : Int), rv, .int .i64 ((16 + L : Nat) : Int)]) := Lib.hid (by rw [hL]; exact hcon)
      have HRECS := Lib.hid hrecs
      have d1 : wr.cell? ⟨w.heap.size, 1, none⟩ = some (.int .i64 (g1 : Int)) := HCON.out.cell 1
      have d3 : wr.cell? ⟨w.heap.size, 3, none⟩ = some (.int .i64 ((16 + L : Nat) : Int)) := HCON.out.cell 3
      have HRec := Lib.hid (record_any wr g1 (16 + L) S0 (some bd) cx x 1 (HRX.out wr HI.out.bel) hxc (by have := HG.out; omega) (by have := HHL.out; omega) hx12.1 hx12.2)
      have HCl := Lib.hid (fun W hW => clone_any W S0 bd cx x (HRX.out W hW) hx12.1 (by omega))
      rw [show (((1 : UInt8).toNat : Nat) : Int) = 1 from rfl] at HRec
      obtain ⟨p, hp⟩ : ∃ p, p = 16 + L := ⟨_, rfl⟩
      have HP := Lib.hid hp
      rw [← hp] at HRec d3 HCON
      have HRL2 : Hid ((recB g1 p x 1).length = 9 + x.length) := Lib.hid (recB_length _ _ _ _)
      obtain ⟨m, hm⟩ : ∃ m, m = x.length := ⟨_, rfl⟩
      have HM := Lib.hid hm
      rw [← hm] at hcw HRec HCl
      clear hrx hb1 hcell hxc hx12 hl1 hl2 hl3 hcon hrecs hL hx hp hm
      subst hbv
      go_wp2_with fail
      with_reducible refine HRec.out.mono ?_
      rintro e w4 ⟨q4, rfl, hq4, hk4, hb4, hz4⟩
      have HK4 := Lib.hid hk4
      have HB4 := Lib.hid hb4
      have HZ4 := Lib.hid hz4
      have HOW4 := Lib.hid (HI.out.row.old hb4)
      clear hk4 hb4 hz4 hq4
      go_wp2_with (at_builtin; go_must (refine wpList_append_at rfl _ _ 33 rfl (w.heap.size + 1) 5 1 1 _ Try.underlying33 info5 rfl (by decide) (by decide) _ _ _ rfl HOW4.out ⟨q4, 0, none⟩ (9 + m) (9 + m) (bc (recB g1 p x 1)) rfl (by rw [bc_length, HRL2.out, HM.out, Nat.mul_one]) (fun i u hu => by rw [Addr.add_mid, Nat.zero_add, HK4.out.cell]; exact hu) (bc_one _) (by have := HHL.out; have := HM.out; have := HLl.out; omega) (by have := HCON.out.lt; have := HZ4.out; omega) (by omega) ?_); intro bv5 w5 HO5 HG5 HW5)
      have HOW5 : Hid (Own w5 (w.heap.size + 1) bv5 (recsB g1 16 (ns.take j) ++ recB g1 (16 + (recsB g1 16 (ns.take j)).length) x 1)) := Lib.hid (by
        have := HO5.out
        rw [HP.out, HLl.out, ← bc_append] at this
        unfold Own
        rw [List.length_append, recB_length, ← HM.out]
        exact this)
      have hbl : ∀ i, (Value.slice bA (recsB g1 16 (ns.take j)).length bc').ownBlock = some i → w.heap.size + 1 ≤ i ∧ i < wr.heap.size := fun i e => HI.out.row.lt i e
      have HBL := Lib.hid hbl
      have HCON5 : Hid (Blk w5 w.heap.size 59 [.int .i64 (o : Int), .int .i64 (g1 : Int), rv, .int .i64 (p : Int)]) := Lib.hid ((HG5.out.block _ (by have := HCON.out.lt; have := HB4.out.size; omega) (fun e => by have := HBL.out _ e.symm; omega)).trans (HCON.out.below HB4.out HCON.out.lt))
      have HREC5 : Hid (Recs w5 (fun i => w.heap.size < i ∧ bv5.ownBlock ≠ some i) rv (ns.take j)) := Lib.hid (by
        refine ((HRECS.out.old HB4.out).tight.keep (w' := w5) (fun i hi hl => HG5.out.block i hl (fun e => hi.1.2 e.symm)) HG5.out.size).more (fun i hi => ⟨hi.1.1, fun e => ?_⟩)
        rcases HW5.out with h9 | h9
        · exact hi.1.2 (h9 ▸ e)
        · rw [h9] at e; injection e with e; have := hi.2; omega)
      have HB5 : Hid (Below w.heap.size w w5) := Lib.hid ((HI.out.bel.trans (HB4.out.mono HI.out.bel.size)).grown HG5.out (Nat.le_trans HI.out.bel.size HB4.out.size) (fun i e => by have := HBL.out i e; omega))
      have HS5 : Hid (wr.heap.size ≤ w5.heap.size) := Lib.hid (Nat.le_trans HZ4.out HG5.out.size)
      clear hbl HO5 HG5 HW5 HRECS HB4 HZ4 HK4 HOW4 HRec
      go_wp2_with fail
      with_reducible refine (HCl.out w5 HB5.out).mono ?_
      rintro e w7 ⟨q7, c7, rfl, f1, f2, f3, f4, f5⟩
      have HF1 := Lib.hid f1
      have HF3 := Lib.hid f3
      have HF4 := Lib.hid f4
      have HF5 := Lib.hid f5
      have HREC7 := Lib.hid (HREC5.out.old f5)
      have HCON7 := Lib.hid (HCON5.out.below f5 HCON5.out.lt)
      have HAdd := Lib.hid (add_any w7 (fun i => (w.heap.size < i ∧ bv5.ownBlock ≠ some i)) w.heap.size 0 59 _ rv (ns.take j) p q7 c7 x HCON7.out rfl rfl HREC7.out (by omega) ⟨q7, c7, rfl, HX12.out.1, HX12.out.2, by have := HM.out; omega, ⟨by have := HCON5.out.lt; omega, fun e => by have := (HOW5.out.lt _ e).2; omega⟩, fun e => by
        obtain ⟨xs, h9, _⟩ := HREC5.out.ex
        have := (h9.lt _ e).2
        omega, f4⟩ (by have := HP.out; have := HHL.out; omega) (by have := HN.out; have := recsB_count g1 ns 16; have := HQ.out; have := HS2.out; rw [List.length_take]; omega))
      clear f1 f2 f3 f4 f5
      go_wp2_with fail
      with_reducible refine HAdd.out.mono ?_
      rintro e w8 ⟨rfl, rv8, hr8, hb8, hk8⟩
      have HR8 := Lib.hid hr8
      have HB8 := Lib.hid hb8
      have HK8 := Lib.hid hk8
      clear hr8 hb8 hk8 HAdd HCl d1 d3
      go_wp2
      go_roundw
      case rel =>
        have := HLT.out
        refine ⟨j + 1, by omega, by go_num, ?_⟩
        refine HI.out.next HX.out HOW5.out HF5.out HR8.out ?_ (by have := HS5.out; have := HF5.out.size; omega) rv HREC5.out.own HK8.out (HB5.out.trans (HF5.out.mono HB5.out.size))
        have := HB8.out
        rw [HP.out, HLl.out] at this
        exact this
      case measure => have := HLT.out; simp [intOf]; omega
    · obtain rfl : j = N := by omega
      obtain ⟨L, hL⟩ : ∃ L, L = (recsB g1 16 ns).length := ⟨_, rfl⟩
      have htk : ns.take j = ns := List.take_of_length_le (by have := HN.out; omega)
      obtain ⟨rv, hcon, hrecs⟩ := HI.out.con
      have hrow := HI.out.row
      rw [htk] at hcon hrecs hrow
      rw [← hL] at hcon
      obtain ⟨bA, bk, hbv⟩ := hrow.form
      rw [← hL] at hbv
      subst hbv
      obtain ⟨rA, rk, rfl⟩ := hrecs.form
      have HCON := Lib.hid hcon
      have HRECS := Lib.hid hrecs
      have HROW := Lib.hid hrow
      have HLl := Lib.hid hL
      have HBE := Lib.hid HI.out.bel
      have d0 : wr.cell? ⟨w.heap.size, 0, none⟩ = some (.int .i64 (o : Int)) := HCON.out.cell 0
      have e0 : wr.cell? ⟨lb, 0, none⟩ = some (.pointer (some ⟨d, 0, none⟩)) := (HBE.out.cell hlb).trans c0
      have e1 : wr.cell? ⟨lb, 1, none⟩ = some (.int .i64 (sz : Int)) := (HBE.out.cell hlb).trans c1
      have hDs : Dsk wr d g0 s := H.out.dsk.old HBE.out
      have qb : IntKind.i64.wrap ((o : Int) + 16) = ((o + 16 : Nat) : Int) := by rw [IntKind.wrap_i64]; have := HLL.out; have := HLN.out; omega
      have qs : IntKind.i64.wrap ((sz : Int) - 16) = ((sz - 16 : Nat) : Int) := by rw [IntKind.wrap_i64]; have := HS1.out; have := HS2.out; omega
      have HRd := Lib.hid (fun W (hW : Below wr.heap.size wr W) => read_ok W d g0 s (hDs.old hW) (o + 16) (sz - 16) (by have := HLN.out; omega) hup (by have := HLL.out; have := HS1.out; omega))
      obtain ⟨o16, ho16⟩ : ∃ o16, o16 = o + 16 := ⟨_, rfl⟩
      obtain ⟨s16, hs16⟩ : ∃ s16, s16 = sz - 16 := ⟨_, rfl⟩
      rw [← ho16] at qb HRd
      rw [← hs16] at qs HRd
      have HO16 := Lib.hid ho16
      have HS16 := Lib.hid hs16
      have HUP := Lib.hid hup
      have HOK := Lib.hid ho
      have HNn := Lib.hid hn
      clear htk hcon hrecs hrow hL HI hDs ho16 hs16 hup ho hn hj hlt
      have HIB0 : Hid (∀ W, Blk W wr.heap.size 5 (bc (half s.l o16 s16)) → Calls Try.prog 44 #[.slice (some ⟨wr.heap.size, 0, none⟩) s16 s16] W fun e w' => e = .returned (.bool (blankB (half s.l o16 s16))) ∧ W = w') := Lib.hid (fun W hW => by
        have hl9 : (half s.l o16 s16).length = s16 := half_length (by have := HO16.out; have := HS16.out; have := HLL.out; have := HS1.out; omega)
        have := isBlank_any W (· = wr.heap.size) (some ⟨wr.heap.size, 0, none⟩) s16 (half s.l o16 s16) (Rd.of_blk hW) (by rw [hl9]; have := HS16.out; have := HS2.out; omega)
        rw [hl9] at this
        exact this)
      obtain ⟨o8, ho8⟩ : ∃ o8, o8 = o + 8 := ⟨_, rfl⟩
      have q8 : IntKind.i64.wrap ((o : Int) + 8) = ((o8 : Nat) : Int) := by rw [IntKind.wrap_i64]; have := HLL.out; have := HLN.out; omega
      have HO8 := Lib.hid ho8
      clear ho8
      obtain ⟨WSA, hWSA⟩ : ∃ WSA : List Wr, WSA = [(o8, [0])] ++ (if blankB (half s.l o16 s16) then [] else [(o16, List.replicate s16 0)]) := ⟨_, rfl⟩
      obtain ⟨WSB, hWSB⟩ : ∃ WSB : List Wr, WSB = (if recsB g1 16 ns = [] then [] else [(o16, recsB g1 16 ns)]) := ⟨_, rfl⟩
      have HWSA : Hid (WSA = if blankB (half s.l o16 s16) then [(o8, [0])] else [(o8, [0])] ++ [(o16, List.replicate s16 0)]) := Lib.hid (by rw [hWSA]; split <;> simp)
      have HWSB := Lib.hid hWSB
      have HAW : Hid (anewWs s.l sz o g1 ns = WSA ++ (WSB ++ [(o, headB g1 0), (o + 8, [1])])) := Lib.hid (by rw [hWSA, hWSB, HO16.out, HS16.out, HO8.out, List.append_assoc]; rfl)
      have HPf : Hid (∀ W v, WRow W (fun i => w.heap.size ≤ i) v (anewWs s.l sz o g1 ns) → Below w.heap.size w W → Calls Try.prog 31 #[.pointer (some ⟨lb, 0, none⟩), v] W fun e w' => e = .returned (.int .i64 (perf s (anewWs s.l sz o g1 ns)).1) ∧ Sys w' d g0 lb S (perf s (anewWs s.l sz o g1 ns)).2 (c.seen (perf s (anewWs s.l sz o g1 ns)).2) ∧ Kp (fun i => i = d ∨ i = g0 ∨ i = lb) W w') := Lib.hid (fun W v hW hB => by
        obtain ⟨A9, c9, rfl, hrd⟩ := hW.rd
        have hl5 : (anewWs s.l sz o g1 ns).length ≤ 5 := by rw [HAW.out, HWSA.out, HWSB.out, List.length_append, List.length_append]; split <;> split <;> simp
        refine lperform_any W d g0 lb S s c (H.out.old hB) n HOK.out (fun i => w.heap.size ≤ i) A9 c9 _ hrd (by have := H.out.dsk.blk.lt; omega) (by have := H.out.dsk.row.lt; omega) (by have := HNn.out; omega) (fun x hx => ?_)
        have hle : x.1 ≤ o + 16 := by
          unfold anewWs at hx
          simp only [List.mem_append, List.mem_cons, List.not_mem_nil, or_false] at hx
          rcases hx with hx | hx | hx | hx | hx
          · subst hx; show o + 8 ≤ _; omega
          · split at hx
            · cases hx
            · rw [List.mem_singleton] at hx; subst hx; exact Nat.le_refl _
          · split at hx
            · cases hx
            · rw [List.mem_singleton] at hx; subst hx; exact Nat.le_refl _
          · subst hx; show o ≤ _; omega
          · subst hx; show o + 8 ≤ _; omega
        have := HLL.out
        have := HLN.out
        omega)
      clear hWSA hWSB
      generalize perf s (anewWs s.l sz o g1 ns) = T at *
      go_wp2
      go_region_law (first
        | (go_simp; go_at_call 25; (with_reducible refine (HRd.out wr.drew ((Below.refl _ _).drew)).mono ?_); rintro e w2 ⟨rfl, hk2, hb2, hz2⟩; have HK2 : Hid (Blk w2 wr.heap.size 5 (bc (half s.l o16 s16))) := Lib.hid hk2; have HB2 : Hid (Below wr.heap.size wr w2) := Lib.hid (((Below.refl wr.heap.size wr).drew).trans hb2); have HZ2 : Hid (w2.heap.size = wr.heap.size + 1) := Lib.hid hz2; clear hk2 hb2 hz2)
        | fail)
      all_goals
        have HBw := Lib.hid (HBE.out.trans (HB2.out.mono HBE.out.size))
        have HC2 := Lib.hid (HCON.out.below HB2.out HCON.out.lt)
        have d0 : w2.cell? ⟨w.heap.size, 0, none⟩ = some (.int .i64 (o : Int)) := HC2.out.cell 0
        have HIB := Lib.hid (fun W (hW : Below w2.heap.size w2 W) => HIB0.out W (HK2.out.below hW (by have := HZ2.out; omega)))
        have HZw : Hid (w.heap.size < wr.heap.size) := Lib.hid HCON.out.lt
        have HW3 : Hid (WRow ((w2.alloc (.cells #[.int .u8 0] 5)).alloc (.cells #[.int .i64 ((o8 : Nat) : Int), .slice (some ⟨w2.heap.size, 0, none⟩) 1 1] 71)) (fun i => w.heap.size ≤ i) (.slice (some ⟨w2.heap.size + 1, 0, none⟩) 1 1) [(o8, [0])]) := Lib.hid (WRow.one _ _ o8 _ rfl (some ⟨w2.heap.size, 0, none⟩) 1 1 [0] rfl (Nat.le_refl _) ((Rd.of_blk (Blk.new w2 5 #[.int .u8 0] (bc [0]) rfl)).more (fun i hi => by have : i = w2.heap.size := hi; have := HZ2.out; have := HZw.out; omega)) (by have := HZ2.out; have := HZw.out; simp; omega) _ (by simp))
        have HB3 : Hid (Below w2.heap.size w2 ((w2.alloc (.cells #[.int .u8 0] 5)).alloc (.cells #[.int .i64 ((o8 : Nat) : Int), .slice (some ⟨w2.heap.size, 0, none⟩) 1 1] 71))) := Lib.hid (((Below.refl _ _).alloc (Nat.le_refl _) _).alloc (by simp) _)
        have HZ3 : Hid (((w2.alloc (.cells #[.int .u8 0] 5)).alloc (.cells #[.int .i64 ((o8 : Nat) : Int), .slice (some ⟨w2.heap.size, 0, none⟩) 1 1] 71)).heap.size = w2.heap.size + 2) := Lib.hid (by simp)
        clear HK2
        go_wp2_with fail
        generalize (w2.alloc (.cells #[.int .u8 0] 5)).alloc (.cells #[.int .i64 ((o8 : Nat) : Int), .slice (some ⟨w2.heap.size, 0, none⟩) 1 1] 71) = w3 at *
        with_reducible refine (HIB.out w3 HB3.out).mono ?_
        rintro e w4 ⟨rfl, rfl⟩
        by_cases hbl : blankB (half s.l o16 s16) = true
        · rw [hbl]
          have HBL := Lib.hid hbl
          clear hbl HIB
          have HW5 : Hid (WRow w3 (fun i => w.heap.size ≤ i) (.slice (some ⟨w2.heap.size + 1, 0, none⟩) 1 1) WSA) := Lib.hid (by rw [HWSA.out, if_pos HBL.out]; exact HW3.out)
          have HV5 : Hid (∀ i, (Value.slice (some ⟨w2.heap.size + 1, 0, none⟩) 1 1).ownBlock = some i → w2.heap.size ≤ i) := Lib.hid (fun i e => by have e' : some (w2.heap.size + 1) = some i := e; injection e' with e'; omega)
          have HB5 := HB3
          obtain ⟨v5, hv5⟩ : ∃ v5, v5 = Value.slice (some ⟨w2.heap.size + 1, 0, none⟩) 1 1 := ⟨_, rfl⟩
          rw [← hv5] at HW5 HV5
          rw [← hv5]
          clear hv5 HW3 HB3 HZ3
          have HC5 := Lib.hid (HC2.out.below HB5.out (by have := HZw.out; have := HZ2.out; omega))
          obtain ⟨w5, hw5⟩ : ∃ w5, w5 = w3 := ⟨_, rfl⟩
          subst hw5
          by_cases hLz : L = 0
          · have hL0 : ¬ (0 : Int) < (L : Int) := by omega
            have HLZ := Lib.hid hLz
            clear hLz
            have HW6 : Hid (WRow w5 (fun i => w.heap.size ≤ i) v5 (WSA ++ WSB)) := Lib.hid (by rw [HWSB.out, if_pos (List.length_eq_zero_iff.1 (HLl.out.symm.trans HLZ.out)), List.append_nil]; exact HW5.out)
            have HB6 := HB5
            have HV6 := HV5
            have HC6 := HC5
            obtain ⟨v6, hv6⟩ : ∃ v6, v6 = v5 := ⟨_, rfl⟩
            subst hv6
            obtain ⟨w6, hw6⟩ : ∃ w6, w6 = w5 := ⟨_, rfl⟩
            subst hw6
            clear HW5 HB5 HV5 HC5
            have x0 : w6.cell? ⟨w.heap.size, 0, none⟩ = some (.int .i64 (o : Int)) := HC6.out.cell 0
            have x1 : w6.cell? ⟨w.heap.size, 1, none⟩ = some (.int .i64 (g1 : Int)) := HC6.out.cell 1
            have HHd := Lib.hid (heading_any w6 o g1 (by have := HG.out; omega) (by have := HLL.out; have := HLN.out; omega))
            go_wp2_with fail
            with_reducible refine HHd.out.mono ?_
            rintro e w7 ⟨v7, rfl, hw7, hb7⟩
            have HW7 : Hid (WRow w7 (fun i => w.heap.size ≤ i ∧ v6.ownBlock ≠ some i) v7 [(o, headB g1 0), (o + 8, [1])]) := Lib.hid (hw7.more (fun i hi => ⟨by have := HC6.out.lt; omega, fun e => by
              obtain ⟨us, _, h93, _⟩ := HW6.out.ex
              have := (h93.lt _ e).2
              omega⟩))
            have HB7 := Lib.hid hb7
            clear hw7 hb7 HHd
            go_wp2_with (at_builtin; go_must (refine wpList_append_ws2 rfl _ _ rfl (fun i => w.heap.size ≤ i) v6 v7 (WSA ++ WSB) [(o, headB g1 0), (o + 8, [1])] rfl rfl (HW6.out.old HB7.out) HW7.out (by simp) (by rw [HWSA.out, HWSB.out, List.length_append]; split <;> split <;> simp) (fun i hi => by have := HB7.out.size; have := HC6.out.lt; omega) ?_); intro v8 w8 HW8 HG8 HX8 _)
            have HB8 : Hid (Below w2.heap.size w2 w8) := Lib.hid ((HB6.out.trans (HB7.out.mono HB6.out.size)).grown HG8.out (Nat.le_trans HB6.out.size HB7.out.size) (fun i e => HV6.out i e))
            have HC8 := Lib.hid (HC2.out.below HB8.out (by have := HZw.out; have := HZ2.out; omega))
            have HPf1 := Lib.hid (HPf.out w8 v8 (by rw [HAW.out, ← List.append_assoc]; exact HW8.out) (HBw.out.trans (HB8.out.mono HBw.out.size)))
            go_wp2_with fail
            with_reducible refine HPf1.out.mono ?_
            rintro e w10 ⟨rfl, hs10, hk10⟩
            have HS10 := Lib.hid hs10
            have HB10 : Hid (Below w.heap.size w w8) := Lib.hid (HBw.out.trans (HB8.out.mono HBw.out.size))
            have HK10 : Hid (Kp (fun i => i = d ∨ i = g0 ∨ i = lb ∨ S i) w w10) := Lib.hid ((Kp.old (S := fun i => i = d ∨ i = g0 ∨ i = lb ∨ S i) HB10.out).trans hk10 (fun i _ hi => by rcases hi with hi | hi | hi; exact .inl hi; exact .inr (.inl hi); exact .inr (.inr (.inl hi))))
            have hfar : ∀ i, w.heap.size ≤ i → ¬ (i = d ∨ i = g0 ∨ i = lb) := fun i hi e => by have := H.out.dsk.blk.lt; have := H.out.dsk.row.lt; have := HB.out.lt; omega
            have HC10 := Lib.hid (show Blk w10 w.heap.size _ _ from (hk10.block _ HC8.out.lt (hfar _ (Nat.le_refl _))).trans HC8.out)
            have HR10 := Lib.hid ((HRECS.out.old (HB2.out.trans (HB8.out.mono HB2.out.size))).keep (w' := w10) (fun i hi hl => hk10.block i hl (hfar i (by have := hi.1; omega))) hk10.size)
            clear hs10 hk10 hfar HPf1 HC8 HB8 HG8 HX8 HW8 HW7 HW6 HB7 HB6 HV6 HC6
            by_cases he : T.1 = 0
            · rw [he]
              have HE := Lib.hid he
              clear he
              obtain ⟨A9, k9, hb9, hr9⟩ := HS10.out.log.ex
              have HB9 := Lib.hid hb9
              have y0 : w10.cell? ⟨w.heap.size, 0, none⟩ = some (.int .i64 (o : Int)) := HC10.out.cell 0
              have y1 : w10.cell? ⟨w.heap.size, 1, none⟩ = some (.int .i64 (g1 : Int)) := HC10.out.cell 1
              have y2 : w10.cell? ⟨w.heap.size, 2, none⟩ = some (.slice rA ns.length rk) := HC10.out.cell 2
              have y3 : w10.cell? ⟨w.heap.size, 3, none⟩ = some (.int .i64 ((16 + L : Nat) : Int)) := HC10.out.cell 3
              obtain ⟨m, hm⟩ : ∃ m, m = ns.length := ⟨_, rfl⟩
              obtain ⟨p, hp⟩ : ∃ p, p = 16 + L := ⟨_, rfl⟩
              rw [← hm] at y2
              rw [← hp] at y3
              have HMm := Lib.hid hm
              have HPp := Lib.hid hp
              clear hm hp
              have z3 := HB9.out.cell 3
              have z4 := HB9.out.cell 4
              have z5 := HB9.out.cell 5
              have z6 := HB9.out.cell 6
              simp only [List.getElem?_cons_zero, List.getElem?_cons_succ] at z3 z4 z5 z6
              have f3 := HB9.out.frozen 3
              have f4 := HB9.out.frozen 4
              have f5 := HB9.out.frozen 5
              have f6 := HB9.out.frozen 6
              clear hb9 hr9 e0 e1 d0 x0 x1
              go_wp2
              go_ret
              have hkp := ((((Kp.refl (fun i => i = lb) w10).put lb 3 (.int .i64 (o : Int)) rfl).put lb 4 (.int .i64 (g1 : Int)) rfl).put lb 5 (.slice rA m rk) rfl).put lb 6 (.int .i64 (p : Int)) rfl
              have hbf := (((HB9.out.put 3 (.int .i64 (o : Int))).put 4 (.int .i64 (g1 : Int))).put 5 (.slice rA m rk)).put 6 (.int .i64 (p : Int))
              have hsz9 : ((((w10.setCell ⟨lb, 3, none⟩ (.int .i64 (o : Int))).setCell ⟨lb, 4, none⟩ (.int .i64 (g1 : Int))).setCell ⟨lb, 5, none⟩ (.slice rA m rk)).setCell ⟨lb, 6, none⟩ (.int .i64 (p : Int))).heap.size = w10.heap.size := by simp [World.setCell]
              refine ⟨by rw [HE.out]; rfl, .inl ⟨HE.out, ⟨fun i => w.heap.size < i ∧ i < w10.heap.size, ⟨⟨?_, ?_, HS10.out.dsk.ne⟩, ⟨⟨rA, rk, ?_, ?_⟩, ?_⟩, ?_, ?_, HS10.out.ld, HS10.out.lg⟩, fun i hi => .inr ⟨by omega, ?_⟩⟩, ?_⟩⟩
              · exact (hkp.block d HS10.out.dsk.blk.lt HS10.out.ld.symm).trans HS10.out.dsk.blk
              · exact (hkp.block g0 HS10.out.dsk.row.lt HS10.out.lg.symm).trans HS10.out.dsk.row
              · rw [HMm.out, HPp.out] at hbf
                rw [← HLl.out, HMm.out, HPp.out]
                exact hbf
              · show Recs _ (fun i => w.heap.size < i ∧ i < w10.heap.size) (.slice rA ns.length rk) ns
                exact (HR10.out.tight.keep (fun i hi hl => hkp.block i hl (fun e => by have := hi.1.1; have := HB.out.lt; omega)) hkp.size).more (fun i hi => ⟨hi.1.1, hi.2⟩)
              · exact fun e => by have := HB.out.lt; omega
              · exact fun e => by have := H.out.dsk.blk.lt; omega
              · exact fun e => by have := H.out.dsk.row.lt; omega
              · rw [hsz9]; exact hi.2
              · exact HK10.out.trans hkp (fun i _ e => .inr (.inr (.inl e)))
            · have hne : (T.1 != 0) = true := by simpa using he
              have HE := Lib.hid he
              clear he
              go_wp2
              go_ret
              exact ⟨rfl, .inr ⟨HE.out, ⟨S, HS10.out, fun i hi => .inl hi⟩, HK10.out⟩⟩
          · have hL0 : (0 : Int) < (L : Int) := by omega
            have HLZ : Hid (0 < L) := Lib.hid (by omega)
            clear hLz
            have HWx : Hid (WRow (w5.alloc (.cells #[.int .i64 ((o16 : Nat) : Int), .slice bA L bk] 71)) (fun i => w.heap.size ≤ i ∧ v5.ownBlock ≠ some i) (.slice (some ⟨w5.heap.size, 0, none⟩) 1 1) [(o16, recsB g1 16 ns)]) := Lib.hid (by
              obtain ⟨A9, c9, e9, h91, _, h92⟩ := HROW.out.rd
              injection e9 with e9 _ e9'
              subst e9 e9'
              refine WRow.one _ _ o16 _ rfl bA L bk _ HLl.out h91 ?_ ?_ _ rfl
              · refine (h92.tight.below (HB2.out.trans (HB5.out.mono HB2.out.size)) (fun i hi => hi.2)).more (fun i hi => ⟨by have := hi.1; omega, fun e => ?_⟩)
                have := HV5.out i e
                have := hi.2
                have := HB2.out.size
                omega
              · refine ⟨by have := HC5.out.lt; omega, fun e => ?_⟩
                obtain ⟨us, _, h93, _⟩ := HW5.out.ex
                have := (h93.lt _ e).2
                omega)
            have HBx : Hid (Below w5.heap.size w5 (w5.alloc (.cells #[.int .i64 ((o16 : Nat) : Int), .slice bA L bk] 71))) := Lib.hid ((Below.refl _ _).alloc (Nat.le_refl _) _)
            go_upto_region 18 with (at_builtin; go_must (refine wpList_append_ws2 rfl _ _ rfl (fun i => w.heap.size ≤ i) v5 (.slice (some ⟨w5.heap.size, 0, none⟩) 1 1) WSA [(o16, recsB g1 16 ns)] rfl rfl (HW5.out.old HBx.out) HWx.out (by simp) (by rw [HWSA.out]; split <;> simp) (fun i hi => by have := HBx.out.size; have := HC5.out.lt; omega) ?_); intro v6 w6 HW6' HG6 HX6 _)
            have HW6 : Hid (WRow w6 (fun i => w.heap.size ≤ i) v6 (WSA ++ WSB)) := Lib.hid (by rw [HWSB.out, if_neg (fun e => by have := HLl.out; rw [e] at this; have := HLZ.out; simp at *; omega)]; exact HW6'.out)
            have HV6 : Hid (∀ i, v6.ownBlock = some i → w2.heap.size ≤ i) := Lib.hid (fun i e => by
              rcases HX6.out with h9 | h9
              · exact HV5.out i (h9 ▸ e)
              · rw [h9] at e
                injection e with e
                have := HBx.out.size
                have := HB5.out.size
                omega)
            have HB6 : Hid (Below w2.heap.size w2 w6) := Lib.hid ((HB5.out.trans (HBx.out.mono HB5.out.size)).grown HG6.out (Nat.le_trans HB5.out.size HBx.out.size) (fun i e => HV5.out i e))
            have HC6 := Lib.hid (HC2.out.below HB6.out (by have := HZw.out; have := HZ2.out; omega))
            clear HWx HBx HW6' HG6 HX6 HW5 HB5 HV5 HC5
            have x0 : w6.cell? ⟨w.heap.size, 0, none⟩ = some (.int .i64 (o : Int)) := HC6.out.cell 0
            have x1 : w6.cell? ⟨w.heap.size, 1, none⟩ = some (.int .i64 (g1 : Int)) := HC6.out.cell 1
            have HHd := Lib.hid (heading_any w6 o g1 (by have := HG.out; omega) (by have := HLL.out; have := HLN.out; omega))
            go_wp2_with fail
            with_reducible refine HHd.out.mono ?_
            rintro e w7 ⟨v7, rfl, hw7, hb7⟩
            have HW7 : Hid (WRow w7 (fun i => w.heap.size ≤ i ∧ v6.ownBlock ≠ some i) v7 [(o, headB g1 0), (o + 8, [1])]) := Lib.hid (hw7.more (fun i hi => ⟨by have := HC6.out.lt; omega, fun e => by
              obtain ⟨us, _, h93, _⟩ := HW6.out.ex
              have := (h93.lt _ e).2
              omega⟩))
            have HB7 := Lib.hid hb7
            clear hw7 hb7 HHd
            go_wp2_with (at_builtin; go_must (refine wpList_append_ws2 rfl _ _ rfl (fun i => w.heap.size ≤ i) v6 v7 (WSA ++ WSB) [(o, headB g1 0), (o + 8, [1])] rfl rfl (HW6.out.old HB7.out) HW7.out (by simp) (by rw [HWSA.out, HWSB.out, List.length_append]; split <;> split <;> simp) (fun i hi => by have := HB7.out.size; have := HC6.out.lt; omega) ?_); intro v8 w8 HW8 HG8 HX8 _)
            have HB8 : Hid (Below w2.heap.size w2 w8) := Lib.hid ((HB6.out.trans (HB7.out.mono HB6.out.size)).grown HG8.out (Nat.le_trans HB6.out.size HB7.out.size) (fun i e => HV6.out i e))
            have HC8 := Lib.hid (HC2.out.below HB8.out (by have := HZw.out; have := HZ2.out; omega))
            have HPf1 := Lib.hid (HPf.out w8 v8 (by rw [HAW.out, ← List.append_assoc]; exact HW8.out) (HBw.out.trans (HB8.out.mono HBw.out.size)))
            go_wp2_with fail
            with_reducible refine HPf1.out.mono ?_
            rintro e w10 ⟨rfl, hs10, hk10⟩
            have HS10 := Lib.hid hs10
            have HB10 : Hid (Below w.heap.size w w8) := Lib.hid (HBw.out.trans (HB8.out.mono HBw.out.size))
            have HK10 : Hid (Kp (fun i => i = d ∨ i = g0 ∨ i = lb ∨ S i) w w10) := Lib.hid ((Kp.old (S := fun i => i = d ∨ i = g0 ∨ i = lb ∨ S i) HB10.out).trans hk10 (fun i _ hi => by rcases hi with hi | hi | hi; exact .inl hi; exact .inr (.inl hi); exact .inr (.inr (.inl hi))))
            have hfar : ∀ i, w.heap.size ≤ i → ¬ (i = d ∨ i = g0 ∨ i = lb) := fun i hi e => by have := H.out.dsk.blk.lt; have := H.out.dsk.row.lt; have := HB.out.lt; omega
            have HC10 := Lib.hid (show Blk w10 w.heap.size _ _ from (hk10.block _ HC8.out.lt (hfar _ (Nat.le_refl _))).trans HC8.out)
            have HR10 := Lib.hid ((HRECS.out.old (HB2.out.trans (HB8.out.mono HB2.out.size))).keep (w' := w10) (fun i hi hl => hk10.block i hl (hfar i (by have := hi.1; omega))) hk10.size)
            clear hs10 hk10 hfar HPf1 HC8 HB8 HG8 HX8 HW8 HW7 HW6 HB7 HB6 HV6 HC6
            by_cases he : T.1 = 0
            · rw [he]
              have HE := Lib.hid he
              clear he
              obtain ⟨A9, k9, hb9, hr9⟩ := HS10.out.log.ex
              have HB9 := Lib.hid hb9
              have y0 : w10.cell? ⟨w.heap.size, 0, none⟩ = some (.int .i64 (o : Int)) := HC10.out.cell 0
              have y1 : w10.cell? ⟨w.heap.size, 1, none⟩ = some (.int .i64 (g1 : Int)) := HC10.out.cell 1
              have y2 : w10.cell? ⟨w.heap.size, 2, none⟩ = some (.slice rA ns.length rk) := HC10.out.cell 2
              have y3 : w10.cell? ⟨w.heap.size, 3, none⟩ = some (.int .i64 ((16 + L : Nat) : Int)) := HC10.out.cell 3
              obtain ⟨m, hm⟩ : ∃ m, m = ns.length := ⟨_, rfl⟩
              obtain ⟨p, hp⟩ : ∃ p, p = 16 + L := ⟨_, rfl⟩
              rw [← hm] at y2
              rw [← hp] at y3
              have HMm := Lib.hid hm
              have HPp := Lib.hid hp
              clear hm hp
              have z3 := HB9.out.cell 3
              have z4 := HB9.out.cell 4
              have z5 := HB9.out.cell 5
              have z6 := HB9.out.cell 6
              simp only [List.getElem?_cons_zero, List.getElem?_cons_succ] at z3 z4 z5 z6
              have f3 := HB9.out.frozen 3
              have f4 := HB9.out.frozen 4
              have f5 := HB9.out.frozen 5
              have f6 := HB9.out.frozen 6
              clear hb9 hr9 e0 e1 d0 x0 x1
              go_wp2
              go_ret
              have hkp := ((((Kp.refl (fun i => i = lb) w10).put lb 3 (.int .i64 (o : Int)) rfl).put lb 4 (.int .i64 (g1 : Int)) rfl).put lb 5 (.slice rA m rk) rfl).put lb 6 (.int .i64 (p : Int)) rfl
              have hbf := (((HB9.out.put 3 (.int .i64 (o : Int))).put 4 (.int .i64 (g1 : Int))).put 5 (.slice rA m rk)).put 6 (.int .i64 (p : Int))
              have hsz9 : ((((w10.setCell ⟨lb, 3, none⟩ (.int .i64 (o : Int))).setCell ⟨lb, 4, none⟩ (.int .i64 (g1 : Int))).setCell ⟨lb, 5, none⟩ (.slice rA m rk)).setCell ⟨lb, 6, none⟩ (.int .i64 (p : Int))).heap.size = w10.heap.size := by simp [World.setCell]
              refine ⟨by rw [HE.out]; rfl, .inl ⟨HE.out, ⟨fun i => w.heap.size < i ∧ i < w10.heap.size, ⟨⟨?_, ?_, HS10.out.dsk.ne⟩, ⟨⟨rA, rk, ?_, ?_⟩, ?_⟩, ?_, ?_, HS10.out.ld, HS10.out.lg⟩, fun i hi => .inr ⟨by omega, ?_⟩⟩, ?_⟩⟩
              · exact (hkp.block d HS10.out.dsk.blk.lt HS10.out.ld.symm).trans HS10.out.dsk.blk
              · exact (hkp.block g0 HS10.out.dsk.row.lt HS10.out.lg.symm).trans HS10.out.dsk.row
              · rw [HMm.out, HPp.out] at hbf
                rw [← HLl.out, HMm.out, HPp.out]
                exact hbf
              · show Recs _ (fun i => w.heap.size < i ∧ i < w10.heap.size) (.slice rA ns.length rk) ns
                exact (HR10.out.tight.keep (fun i hi hl => hkp.block i hl (fun e => by have := hi.1.1; have := HB.out.lt; omega)) hkp.size).more (fun i hi => ⟨hi.1.1, hi.2⟩)
              · exact fun e => by have := HB.out.lt; omega
              · exact fun e => by have := H.out.dsk.blk.lt; omega
              · exact fun e => by have := H.out.dsk.row.lt; omega
              · rw [hsz9]; exact hi.2
              · exact HK10.out.trans hkp (fun i _ e => .inr (.inr (.inl e)))
            · have hne : (T.1 != 0) = true := by simpa using he
              have HE := Lib.hid he
              clear he
              go_wp2
              go_ret
              exact ⟨rfl, .inr ⟨HE.out, ⟨S, HS10.out, fun i hi => .inl hi⟩, HK10.out⟩⟩
        · have hbl' : blankB (half s.l o16 s16) = false := by simpa using hbl
          rw [hbl']
          have HBL := Lib.hid hbl'
          clear hbl hbl' HIB
          have hmk := run_zeros s16 (by have := HS16.out; have := HS2.out; omega)
          have HZl : Hid ((List.replicate s16 (0 : UInt8)).length = s16) := Lib.hid (by simp)
          obtain ⟨Z, hZ⟩ : ∃ Z, Z = List.replicate s16 (0 : UInt8) := ⟨_, rfl⟩
          rw [← hZ] at hmk HZl
          have HZZ := Lib.hid hZ
          have HWx : Hid (WRow ((w3.alloc (.cells (bc Z).toArray 5)).alloc (.cells #[.int .i64 ((o16 : Nat) : Int), .slice (some ⟨w3.heap.size, 0, none⟩) s16 s16] 71)) (fun i => w.heap.size ≤ i ∧ (Value.slice (some ⟨w2.heap.size + 1, 0, none⟩) 1 1).ownBlock ≠ some i) (.slice (some ⟨w3.heap.size + 1, 0, none⟩) 1 1) [(o16, Z)]) := Lib.hid (by
            have hne : ∀ i, w3.heap.size ≤ i → w.heap.size ≤ i ∧ (Value.slice (some ⟨w2.heap.size + 1, 0, none⟩) 1 1).ownBlock ≠ some i := fun i hi => ⟨by have := HZ3.out; have := HZ2.out; have := HZw.out; omega, fun e => by have e' : some (w2.heap.size + 1) = some i := e; injection e' with e'; have := HZ3.out; omega⟩
            exact WRow.one _ _ o16 _ rfl (some ⟨w3.heap.size, 0, none⟩) s16 s16 Z HZl.out.symm (by rw [HZl.out]; exact Nat.le_refl _) ((Rd.of_blk (Blk.new w3 5 (bc Z).toArray (bc Z) rfl)).more (fun i hi => by have : i = w3.heap.size := hi; exact hne i (by omega))) (hne _ (by simp)) _ (by simp))
          have HBx : Hid (Below w3.heap.size w3 ((w3.alloc (.cells (bc Z).toArray 5)).alloc (.cells #[.int .i64 ((o16 : Nat) : Int), .slice (some ⟨w3.heap.size, 0, none⟩) s16 s16] 71))) := Lib.hid (((Below.refl _ _).alloc (Nat.le_refl _) _).alloc (by simp) _)
          clear hZ
          go_upto_region 16 with (at_builtin; go_must (refine wpList_append_ws2 rfl _ _ rfl (fun i => w.heap.size ≤ i) (.slice (some ⟨w2.heap.size + 1, 0, none⟩) 1 1) (.slice (some ⟨w3.heap.size + 1, 0, none⟩) 1 1) [(o8, [0])] [(o16, Z)] rfl rfl (HW3.out.old HBx.out) HWx.out (by simp) (by simp) (fun i hi => by have := HBx.out.size; have := HZ3.out; have := HZ2.out; have := HZw.out; omega) ?_); intro v5 w5 HW5' HG5 HX5 _)
          have HW5 : Hid (WRow w5 (fun i => w.heap.size ≤ i) v5 WSA) := Lib.hid (by rw [HWSA.out, HBL.out, ← HZZ.out]; exact HW5'.out)
          have HV5 : Hid (∀ i, v5.ownBlock = some i → w2.heap.size ≤ i) := Lib.hid (fun i e => by
            rcases HX5.out with h9 | h9
            · rw [h9] at e
              have e' : some (w2.heap.size + 1) = some i := e
              injection e' with e'
              omega
            · rw [h9] at e
              injection e with e
              have := HBx.out.size
              have := HZ3.out
              omega)
          have HB5 : Hid (Below w2.heap.size w2 w5) := Lib.hid ((HB3.out.trans (HBx.out.mono HB3.out.size)).grown HG5.out (Nat.le_trans HB3.out.size HBx.out.size) (fun i e => by have e' : some (w2.heap.size + 1) = some i := e; injection e' with e'; omega))
          have HC5 := Lib.hid (HC2.out.below HB5.out (by have := HZw.out; have := HZ2.out; omega))
          clear HW3 HB3 HZ3 HWx HBx HW5' HG5 HX5 hmk HZl
          by_cases hLz : L = 0
          · have hL0 : ¬ (0 : Int) < (L : Int) := by omega
            have HLZ := Lib.hid hLz
            clear hLz
            have HW6 : Hid (WRow w5 (fun i => w.heap.size ≤ i) v5 (WSA ++ WSB)) := Lib.hid (by rw [HWSB.out, if_pos (List.length_eq_zero_iff.1 (HLl.out.symm.trans HLZ.out)), List.append_nil]; exact HW5.out)
            have HB6 := HB5
            have HV6 := HV5
            have HC6 := HC5
            obtain ⟨v6, hv6⟩ : ∃ v6, v6 = v5 := ⟨_, rfl⟩
            subst hv6
            obtain ⟨w6, hw6⟩ : ∃ w6, w6 = w5 := ⟨_, rfl⟩
            subst hw6
            clear HW5 HB5 HV5 HC5
            have x0 : w6.cell? ⟨w.heap.size, 0, none⟩ = some (.int .i64 (o : Int)) := HC6.out.cell 0
            have x1 : w6.cell? ⟨w.heap.size, 1, none⟩ = some (.int .i64 (g1 : Int)) := HC6.out.cell 1
            have HHd := Lib.hid (heading_any w6 o g1 (by have := HG.out; omega) (by have := HLL.out; have := HLN.out; omega))
            go_wp2_with fail
            with_reducible refine HHd.out.mono ?_
            rintro e w7 ⟨v7, rfl, hw7, hb7⟩
            have HW7 : Hid (WRow w7 (fun i => w.heap.size ≤ i ∧ v6.ownBlock ≠ some i) v7 [(o, headB g1 0), (o + 8, [1])]) := Lib.hid (hw7.more (fun i hi => ⟨by have := HC6.out.lt; omega, fun e => by
              obtain ⟨us, _, h93, _⟩ := HW6.out.ex
              have := (h93.lt _ e).2
              omega⟩))
            have HB7 := Lib.hid hb7
            clear hw7 hb7 HHd
            go_wp2_with (at_builtin; go_must (refine wpList_append_ws2 rfl _ _ rfl (fun i => w.heap.size ≤ i) v6 v7 (WSA ++ WSB) [(o, headB g1 0), (o + 8, [1])] rfl rfl (HW6.out.old HB7.out) HW7.out (by simp) (by rw [HWSA.out, HWSB.out, List.length_append]; split <;> split <;> simp) (fun i hi => by have := HB7.out.size; have := HC6.out.lt; omega) ?_); intro v8 w8 HW8 HG8 HX8 _)
            have HB8 : Hid (Below w2.heap.size w2 w8) := Lib.hid ((HB6.out.trans (HB7.out.mono HB6.out.size)).grown HG8.out (Nat.le_trans HB6.out.size HB7.out.size) (fun i e => HV6.out i e))
            have HC8 := Lib.hid (HC2.out.below HB8.out (by have := HZw.out; have := HZ2.out; omega))
            have HPf1 := Lib.hid (HPf.out w8 v8 (by rw [HAW.out, ← List.append_assoc]; exact HW8.out) (HBw.out.trans (HB8.out.mono HBw.out.size)))
            go_wp2_with fail
            with_reducible refine HPf1.out.mono ?_
            rintro e w10 ⟨rfl, hs10, hk10⟩
            have HS10 := Lib.hid hs10
            have HB10 : Hid (Below w.heap.size w w8) := Lib.hid (HBw.out.trans (HB8.out.mono HBw.out.size))
            have HK10 : Hid (Kp (fun i => i = d ∨ i = g0 ∨ i = lb ∨ S i) w w10) := Lib.hid ((Kp.old (S := fun i => i = d ∨ i = g0 ∨ i = lb ∨ S i) HB10.out).trans hk10 (fun i _ hi => by rcases hi with hi | hi | hi; exact .inl hi; exact .inr (.inl hi); exact .inr (.inr (.inl hi))))
            have hfar : ∀ i, w.heap.size ≤ i → ¬ (i = d ∨ i = g0 ∨ i = lb) := fun i hi e => by have := H.out.dsk.blk.lt; have := H.out.dsk.row.lt; have := HB.out.lt; omega
            have HC10 := Lib.hid (show Blk w10 w.heap.size _ _ from (hk10.block _ HC8.out.lt (hfar _ (Nat.le_refl _))).trans HC8.out)
            have HR10 := Lib.hid ((HRECS.out.old (HB2.out.trans (HB8.out.mono HB2.out.size))).keep (w' := w10) (fun i hi hl => hk10.block i hl (hfar i (by have := hi.1; omega))) hk10.size)
            clear hs10 hk10 hfar HPf1 HC8 HB8 HG8 HX8 HW8 HW7 HW6 HB7 HB6 HV6 HC6
            by_cases he : T.1 = 0
            · rw [he]
              have HE := Lib.hid he
              clear he
              obtain ⟨A9, k9, hb9, hr9⟩ := HS10.out.log.ex
              have HB9 := Lib.hid hb9
              have y0 : w10.cell? ⟨w.heap.size, 0, none⟩ = some (.int .i64 (o : Int)) := HC10.out.cell 0
              have y1 : w10.cell? ⟨w.heap.size, 1, none⟩ = some (.int .i64 (g1 : Int)) := HC10.out.cell 1
              have y2 : w10.cell? ⟨w.heap.size, 2, none⟩ = some (.slice rA ns.length rk) := HC10.out.cell 2
              have y3 : w10.cell? ⟨w.heap.size, 3, none⟩ = some (.int .i64 ((16 + L : Nat) : Int)) := HC10.out.cell 3
              obtain ⟨m, hm⟩ : ∃ m, m = ns.length := ⟨_, rfl⟩
              obtain ⟨p, hp⟩ : ∃ p, p = 16 + L := ⟨_, rfl⟩
              rw [← hm] at y2
              rw [← hp] at y3
              have HMm := Lib.hid hm
              have HPp := Lib.hid hp
              clear hm hp
              have z3 := HB9.out.cell 3
              have z4 := HB9.out.cell 4
              have z5 := HB9.out.cell 5
              have z6 := HB9.out.cell 6
              simp only [List.getElem?_cons_zero, List.getElem?_cons_succ] at z3 z4 z5 z6
              have f3 := HB9.out.frozen 3
              have f4 := HB9.out.frozen 4
              have f5 := HB9.out.frozen 5
              have f6 := HB9.out.frozen 6
              clear hb9 hr9 e0 e1 d0 x0 x1
              go_wp2
              go_ret
              have hkp := ((((Kp.refl (fun i => i = lb) w10).put lb 3 (.int .i64 (o : Int)) rfl).put lb 4 (.int .i64 (g1 : Int)) rfl).put lb 5 (.slice rA m rk) rfl).put lb 6 (.int .i64 (p : Int)) rfl
              have hbf := (((HB9.out.put 3 (.int .i64 (o : Int))).put 4 (.int .i64 (g1 : Int))).put 5 (.slice rA m rk)).put 6 (.int .i64 (p : Int))
              have hsz9 : ((((w10.setCell ⟨lb, 3, none⟩ (.int .i64 (o : Int))).setCell ⟨lb, 4, none⟩ (.int .i64 (g1 : Int))).setCell ⟨lb, 5, none⟩ (.slice rA m rk)).setCell ⟨lb, 6, none⟩ (.int .i64 (p : Int))).heap.size = w10.heap.size := by simp [World.setCell]
              refine ⟨by rw [HE.out]; rfl, .inl ⟨HE.out, ⟨fun i => w.heap.size < i ∧ i < w10.heap.size, ⟨⟨?_, ?_, HS10.out.dsk.ne⟩, ⟨⟨rA, rk, ?_, ?_⟩, ?_⟩, ?_, ?_, HS10.out.ld, HS10.out.lg⟩, fun i hi => .inr ⟨by omega, ?_⟩⟩, ?_⟩⟩
              · exact (hkp.block d HS10.out.dsk.blk.lt HS10.out.ld.symm).trans HS10.out.dsk.blk
              · exact (hkp.block g0 HS10.out.dsk.row.lt HS10.out.lg.symm).trans HS10.out.dsk.row
              · rw [HMm.out, HPp.out] at hbf
                rw [← HLl.out, HMm.out, HPp.out]
                exact hbf
              · show Recs _ (fun i => w.heap.size < i ∧ i < w10.heap.size) (.slice rA ns.length rk) ns
                exact (HR10.out.tight.keep (fun i hi hl => hkp.block i hl (fun e => by have := hi.1.1; have := HB.out.lt; omega)) hkp.size).more (fun i hi => ⟨hi.1.1, hi.2⟩)
              · exact fun e => by have := HB.out.lt; omega
              · exact fun e => by have := H.out.dsk.blk.lt; omega
              · exact fun e => by have := H.out.dsk.row.lt; omega
              · rw [hsz9]; exact hi.2
              · exact HK10.out.trans hkp (fun i _ e => .inr (.inr (.inl e)))
            · have hne : (T.1 != 0) = true := by simpa using he
              have HE := Lib.hid he
              clear he
              go_wp2
              go_ret
              exact ⟨rfl, .inr ⟨HE.out, ⟨S, HS10.out, fun i hi => .inl hi⟩, HK10.out⟩⟩
          · have hL0 : (0 : Int) < (L : Int) := by omega
            have HLZ : Hid (0 < L) := Lib.hid (by omega)
            clear hLz
            have HWx : Hid (WRow (w5.alloc (.cells #[.int .i64 ((o16 : Nat) : Int), .slice bA L bk] 71)) (fun i => w.heap.size ≤ i ∧ v5.ownBlock ≠ some i) (.slice (some ⟨w5.heap.size, 0, none⟩) 1 1) [(o16, recsB g1 16 ns)]) := Lib.hid (by
              obtain ⟨A9, c9, e9, h91, _, h92⟩ := HROW.out.rd
              injection e9 with e9 _ e9'
              subst e9 e9'
              refine WRow.one _ _ o16 _ rfl bA L bk _ HLl.out h91 ?_ ?_ _ rfl
              · refine (h92.tight.below (HB2.out.trans (HB5.out.mono HB2.out.size)) (fun i hi => hi.2)).more (fun i hi => ⟨by have := hi.1; omega, fun e => ?_⟩)
                have := HV5.out i e
                have := hi.2
                have := HB2.out.size
                omega
              · refine ⟨by have := HC5.out.lt; omega, fun e => ?_⟩
                obtain ⟨us, _, h93, _⟩ := HW5.out.ex
                have := (h93.lt _ e).2
                omega)
            have HBx : Hid (Below w5.heap.size w5 (w5.alloc (.cells #[.int .i64 ((o16 : Nat) : Int), .slice bA L bk] 71))) := Lib.hid ((Below.refl _ _).alloc (Nat.le_refl _) _)
            go_upto_region 18 with (at_builtin; go_must (refine wpList_append_ws2 rfl _ _ rfl (fun i => w.heap.size ≤ i) v5 (.slice (some ⟨w5.heap.size, 0, none⟩) 1 1) WSA [(o16, recsB g1 16 ns)] rfl rfl (HW5.out.old HBx.out) HWx.out (by simp) (by rw [HWSA.out]; split <;> simp) (fun i hi => by have := HBx.out.size; have := HC5.out.lt; omega) ?_); intro v6 w6 HW6' HG6 HX6 _)
            have HW6 : Hid (WRow w6 (fun i => w.heap.size ≤ i) v6 (WSA ++ WSB)) := Lib.hid (by rw [HWSB.out, if_neg (fun e => by have := HLl.out; rw [e] at this; have := HLZ.out; simp at *; omega)]; exact HW6'.out)
            have HV6 : Hid (∀ i, v6.ownBlock = some i → w2.heap.size ≤ i) := Lib.hid (fun i e => by
              rcases HX6.out with h9 | h9
              · exact HV5.out i (h9 ▸ e)
              · rw [h9] at e
                injection e with e
                have := HBx.out.size
                have := HB5.out.size
                omega)
            have HB6 : Hid (Below w2.heap.size w2 w6) := Lib.hid ((HB5.out.trans (HBx.out.mono HB5.out.size)).grown HG6.out (Nat.le_trans HB5.out.size HBx.out.size) (fun i e => HV5.out i e))
            have HC6 := Lib.hid (HC2.out.below HB6.out (by have := HZw.out; have := HZ2.out; omega))
            clear HWx HBx HW6' HG6 HX6 HW5 HB5 HV5 HC5
            have x0 : w6.cell? ⟨w.heap.size, 0, none⟩ = some (.int .i64 (o : Int)) := HC6.out.cell 0
            have x1 : w6.cell? ⟨w.heap.size, 1, none⟩ = some (.int .i64 (g1 : Int)) := HC6.out.cell 1
            have HHd := Lib.hid (heading_any w6 o g1 (by have := HG.out; omega) (by have := HLL.out; have := HLN.out; omega))
            go_wp2_with fail
            with_reducible refine HHd.out.mono ?_
            rintro e w7 ⟨v7, rfl, hw7, hb7⟩
            have HW7 : Hid (WRow w7 (fun i => w.heap.size ≤ i ∧ v6.ownBlock ≠ some i) v7 [(o, headB g1 0), (o + 8, [1])]) := Lib.hid (hw7.more (fun i hi => ⟨by have := HC6.out.lt; omega, fun e => by
              obtain ⟨us, _, h93, _⟩ := HW6.out.ex
              have := (h93.lt _ e).2
              omega⟩))
            have HB7 := Lib.hid hb7
            clear hw7 hb7 HHd
            go_wp2_with (at_builtin; go_must (refine wpList_append_ws2 rfl _ _ rfl (fun i => w.heap.size ≤ i) v6 v7 (WSA ++ WSB) [(o, headB g1 0), (o + 8, [1])] rfl rfl (HW6.out.old HB7.out) HW7.out (by simp) (by rw [HWSA.out, HWSB.out, List.length_append]; split <;> split <;> simp) (fun i hi => by have := HB7.out.size; have := HC6.out.lt; omega) ?_); intro v8 w8 HW8 HG8 HX8 _)
            have HB8 : Hid (Below w2.heap.size w2 w8) := Lib.hid ((HB6.out.trans (HB7.out.mono HB6.out.size)).grown HG8.out (Nat.le_trans HB6.out.size HB7.out.size) (fun i e => HV6.out i e))
            have HC8 := Lib.hid (HC2.out.below HB8.out (by have := HZw.out; have := HZ2.out; omega))
            have HPf1 := Lib.hid (HPf.out w8 v8 (by rw [HAW.out, ← List.append_assoc]; exact HW8.out) (HBw.out.trans (HB8.out.mono HBw.out.size)))
            go_wp2_with fail
            with_reducible refine HPf1.out.mono ?_
            rintro e w10 ⟨rfl, hs10, hk10⟩
            have HS10 := Lib.hid hs10
            have HB10 : Hid (Below w.heap.size w w8) := Lib.hid (HBw.out.trans (HB8.out.mono HBw.out.size))
            have HK10 : Hid (Kp (fun i => i = d ∨ i = g0 ∨ i = lb ∨ S i) w w10) := Lib.hid ((Kp.old (S := fun i => i = d ∨ i = g0 ∨ i = lb ∨ S i) HB10.out).trans hk10 (fun i _ hi => by rcases hi with hi | hi | hi; exact .inl hi; exact .inr (.inl hi); exact .inr (.inr (.inl hi))))
            have hfar : ∀ i, w.heap.size ≤ i → ¬ (i = d ∨ i = g0 ∨ i = lb) := fun i hi e => by have := H.out.dsk.blk.lt; have := H.out.dsk.row.lt; have := HB.out.lt; omega
            have HC10 := Lib.hid (show Blk w10 w.heap.size _ _ from (hk10.block _ HC8.out.lt (hfar _ (Nat.le_refl _))).trans HC8.out)
            have HR10 := Lib.hid ((HRECS.out.old (HB2.out.trans (HB8.out.mono HB2.out.size))).keep (w' := w10) (fun i hi hl => hk10.block i hl (hfar i (by have := hi.1; omega))) hk10.size)
            clear hs10 hk10 hfar HPf1 HC8 HB8 HG8 HX8 HW8 HW7 HW6 HB7 HB6 HV6 HC6
            by_cases he : T.1 = 0
            · rw [he]
              have HE := Lib.hid he
              clear he
              obtain ⟨A9, k9, hb9, hr9⟩ := HS10.out.log.ex
              have HB9 := Lib.hid hb9
              have y0 : w10.cell? ⟨w.heap.size, 0, none⟩ = some (.int .i64 (o : Int)) := HC10.out.cell 0
              have y1 : w10.cell? ⟨w.heap.size, 1, none⟩ = some (.int .i64 (g1 : Int)) := HC10.out.cell 1
              have y2 : w10.cell? ⟨w.heap.size, 2, none⟩ = some (.slice rA ns.length rk) := HC10.out.cell 2
              have y3 : w10.cell? ⟨w.heap.size, 3, none⟩ = some (.int .i64 ((16 + L : Nat) : Int)) := HC10.out.cell 3
              obtain ⟨m, hm⟩ : ∃ m, m = ns.length := ⟨_, rfl⟩
              obtain ⟨p, hp⟩ : ∃ p, p = 16 + L := ⟨_, rfl⟩
              rw [← hm] at y2
              rw [← hp] at y3
              have HMm := Lib.hid hm
              have HPp := Lib.hid hp
              clear hm hp
              have z3 := HB9.out.cell 3
              have z4 := HB9.out.cell 4
              have z5 := HB9.out.cell 5
              have z6 := HB9.out.cell 6
              simp only [List.getElem?_cons_zero, List.getElem?_cons_succ] at z3 z4 z5 z6
              have f3 := HB9.out.frozen 3
              have f4 := HB9.out.frozen 4
              have f5 := HB9.out.frozen 5
              have f6 := HB9.out.frozen 6
              clear hb9 hr9 e0 e1 d0 x0 x1
              go_wp2
              go_ret
              have hkp := ((((Kp.refl (fun i => i = lb) w10).put lb 3 (.int .i64 (o : Int)) rfl).put lb 4 (.int .i64 (g1 : Int)) rfl).put lb 5 (.slice rA m rk) rfl).put lb 6 (.int .i64 (p : Int)) rfl
              have hbf := (((HB9.out.put 3 (.int .i64 (o : Int))).put 4 (.int .i64 (g1 : Int))).put 5 (.slice rA m rk)).put 6 (.int .i64 (p : Int))
              have hsz9 : ((((w10.setCell ⟨lb, 3, none⟩ (.int .i64 (o : Int))).setCell ⟨lb, 4, none⟩ (.int .i64 (g1 : Int))).setCell ⟨lb, 5, none⟩ (.slice rA m rk)).setCell ⟨lb, 6, none⟩ (.int .i64 (p : Int))).heap.size = w10.heap.size := by simp [World.setCell]
              refine ⟨by rw [HE.out]; rfl, .inl ⟨HE.out, ⟨fun i => w.heap.size < i ∧ i < w10.heap.size, ⟨⟨?_, ?_, HS10.out.dsk.ne⟩, ⟨⟨rA, rk, ?_, ?_⟩, ?_⟩, ?_, ?_, HS10.out.ld, HS10.out.lg⟩, fun i hi => .inr ⟨by omega, ?_⟩⟩, ?_⟩⟩
              · exact (hkp.block d HS10.out.dsk.blk.lt HS10.out.ld.symm).trans HS10.out.dsk.blk
              · exact (hkp.block g0 HS10.out.dsk.row.lt HS10.out.lg.symm).trans HS10.out.dsk.row
              · rw [HMm.out, HPp.out] at hbf
                rw [← HLl.out, HMm.out, HPp.out]
                exact hbf
              · show Recs _ (fun i => w.heap.size < i ∧ i < w10.heap.size) (.slice rA ns.length rk) ns
                exact (HR10.out.tight.keep (fun i hi hl => hkp.block i hl (fun e => by have := hi.1.1; have := HB.out.lt; omega)) hkp.size).more (fun i hi => ⟨hi.1.1, hi.2⟩)
              · exact fun e => by have := HB.out.lt; omega
              · exact fun e => by have := H.out.dsk.blk.lt; omega
              · exact fun e => by have := H.out.dsk.row.lt; omega
              · rw [hsz9]; exact hi.2
              · exact HK10.out.trans hkp (fun i _ e => .inr (.inr (.inl e)))
            · have hne : (T.1 != 0) = true := by simpa using he
              have HE := Lib.hid he
              clear he
              go_wp2
              go_ret
              exact ⟨rfl, .inr ⟨HE.out, ⟨S, HS10.out, fun i hi => .inl hi⟩, HK10.out⟩⟩
end Go.Proofs.Ytaoaegkfejlgkaa.Dsk
