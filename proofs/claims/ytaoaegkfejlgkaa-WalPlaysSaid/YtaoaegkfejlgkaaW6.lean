/-
  The contract of add of package wal.
-/
import Derived.Test.YtaoaegkfejlgkaaW5
namespace Go.Proofs.Ytaoaegkfejlgkaa.Dsk
open Go.RowKit
theorem row_slice {w : World} {base : Nat} {e : TypeId} {size n : Nat} {v : Value} {xs : List Value} (h : w.ownsRow base e size v n xs) : ∃ A c, v = .slice A n c := by
  rcases h.2 with ⟨rfl, h3⟩ | ⟨g, cap, cur, hv, _⟩
  · exact ⟨none, 0, by rw [h3]⟩
  · exact ⟨_, cap, hv⟩
set_option maxRecDepth 100000
set_option maxHeartbeats 2000000 in
theorem add_any (w : World) (S : Nat → Prop) (b off : Nat) (t : TypeId) (cs : List Value) (rv : Value) (rs : List (List UInt8)) (e : Nat) (q c : Nat) (x : List UInt8)
    (hk : Blk w b t cs) (h2 : cs[off + 2]? = some rv) (h3 : cs[off + 3]? = some (.int .i64 (e : Int))) (hr : Recs w S rv rs) (hb : ¬ S b) (hq : PayAt w S rv.ownBlock (.slice (some ⟨q, 0, none⟩) x.length c) x) (he : e ≤ 2000000) (hn : rs.length ≤ 1000000) :
    Calls Try.prog 33 #[.pointer (some ⟨b, off, none⟩), .slice (some ⟨q, 0, none⟩) x.length c] w fun en w' => en = .returned (.tuple #[]) ∧
      ∃ rv', Recs w' (fun k => S k ∨ (w.heap.size ≤ k ∧ k < w'.heap.size)) rv' (rs ++ [x]) ∧ Blk w' b t ((cs.set (off + 2) rv').set (off + 3) (.int .i64 ((e + (9 + x.length) : Nat) : Int))) ∧ Kp (fun k => k = b ∨ rv.ownBlock = some k) w w' := by
  obtain ⟨xs, ho, hxs⟩ := hr.ex
  have c2 : w.cell? ⟨b, off + 2, none⟩ = some rv := by rw [hk.cell]; exact h2
  have HR := Lib.hid hr
  have HO := Lib.hid ho
  have HXS := Lib.hid hxs
  have HK := Lib.hid hk
  have HQ := Lib.hid hq
  have H3 := Lib.hid h3
  have H2 := Lib.hid h2
  have HE := Lib.hid he
  have HN := Lib.hid hn
  have HS := Lib.hid hb
  have hof : ∀ k, rv.ownBlock = some k → k < w.heap.size ∧ k ≠ b := fun k ek => ⟨(ho.lt k ek).2, fun e => hb (e ▸ hr.own k ek)⟩
  have HOF := Lib.hid hof
  have hbl := hk.lt
  have HBL := Lib.hid hbl
  have hx1 : 1 ≤ x.length ∧ x.length ≤ 65536 := by obtain ⟨_, _, _, a, a', _⟩ := hq; exact ⟨a, a'⟩
  have HX1 := Lib.hid hx1
  clear hr ho hxs hk hq h3 h2 he hn hb hof hbl hx1
  obtain ⟨n, hn⟩ : ∃ n, n = x.length := ⟨_, rfl⟩
  have HNn := Lib.hid hn
  rw [← hn]
  clear hn
  go_enter Try.func33, Try.ntmps33
  have HB0 := Lib.hid (Blk.new w 33 _ _ (show #[Value.slice (some ⟨q, 0, none⟩) n c] = _ from rfl))
  have HO1 : Hid ((w.alloc (.cells #[Value.slice (some ⟨q, 0, none⟩) n c] 33)).ownsRow 0 33 1 rv rs.length xs) := Lib.hid (HO.out.alloc _)
  go_wp2_with (at_builtin; go_must (refine wpList_append_at rfl _ _ 32 rfl 0 33 1 24 _ Try.underlying32 infoRow rfl (by decide) (by decide) rv rs.length xs rfl HO1.out ⟨w.heap.size, 0, none⟩ 1 1 [.slice (some ⟨q, 0, none⟩) n c] rfl rfl (fun j u hu => by rw [Addr.add_mid, Nat.zero_add, HB0.out.cell]; exact hu) (by intro u hu; rw [List.mem_singleton.1 hu]; rfl) (by have := HN.out; omega) (Nat.zero_le _) (by decide) ?_); intro rv' w1 HO2 HG HW; obtain ⟨A', c', rfl⟩ := row_slice HO2.out; have HK1 : Hid (Blk w1 b t cs) := Lib.hid ((HG.out.block b (by have := HBL.out; simp; omega) (fun e => (HOF.out b e.symm).2 rfl)).trans (HK.out.alloc _)); have d2 := (HK1.out.cell (off + 2)).trans H2.out; have f2 := HK1.out.frozen (off + 2))
  have HK2 := Lib.hid (HK1.out.put (off + 2) (.slice A' (rs.length + 1) c'))
  have hrw : ∀ k, (Value.slice A' (rs.length + 1) c').ownBlock = some k → (rv.ownBlock = some k ∨ (k = w.heap.size + 1 ∧ k < w1.heap.size)) := fun k ek => by
    rcases HW.out with h | h
    · exact .inl (h ▸ ek)
    · have hlt := (HO2.out.lt k ek).2
      rw [h] at ek; injection ek with ek; exact .inr ⟨by rw [← ek]; simp, hlt⟩
  have HKP : Hid (Kp (fun k => k = b ∨ rv.ownBlock = some k) w (w1.setCell ⟨b, off + 2, none⟩ (.slice A' (rs.length + 1) c'))) := Lib.hid (by
    have h1 : Kp (fun k => k = b ∨ rv.ownBlock = some k) w w1 := ⟨HG.out.os, HG.out.tape, HG.out.output, by have := HG.out.size; simp at this; omega, fun k hk a => (HG.out.block k (by simp; omega) (fun e => a (.inr e.symm))).trans (Below.heap_alloc _ _ _ hk)⟩
    exact h1.put b _ _ (.inl rfl))
  have HSZ : Hid (w.heap.size + 1 ≤ (w1.setCell ⟨b, off + 2, none⟩ (.slice A' (rs.length + 1) c')).heap.size) := Lib.hid (by have := HG.out.size; simp [World.setCell] at this ⊢; omega)
  have HREC : Hid (Recs (w1.setCell ⟨b, off + 2, none⟩ (.slice A' (rs.length + 1) c')) (fun k => S k ∨ (w.heap.size ≤ k ∧ k < (w1.setCell ⟨b, off + 2, none⟩ (.slice A' (rs.length + 1) c')).heap.size)) (.slice A' (rs.length + 1) c') (rs ++ [x])) := Lib.hid (by
    have hkeep : ∀ {u : Value} {y : List UInt8}, PayAt w S rv.ownBlock u y → PayAt (w1.setCell ⟨b, off + 2, none⟩ (.slice A' (rs.length + 1) c')) (fun k => S k ∨ (w.heap.size ≤ k ∧ k < (w1.setCell ⟨b, off + 2, none⟩ (.slice A' (rs.length + 1) c')).heap.size)) (Value.slice A' (rs.length + 1) c').ownBlock u y := fun {u y} hp => by
      have hp2 := (hp.keep (w' := w1.setCell ⟨b, off + 2, none⟩ (.slice A' (rs.length + 1) c')) (fun k hS hk hr => HKP.out.block k hk (by rintro (rfl | h); exact HS.out hS; exact hr h)) HKP.out.size).more (S' := fun k => S k ∨ (w.heap.size ≤ k ∧ k < (w1.setCell ⟨b, off + 2, none⟩ (.slice A' (rs.length + 1) c')).heap.size)) (fun k h => .inl h)
      have hlt := hp.lt
      obtain ⟨q1, c1, e1, a1, a2, a3, a4, a5, a6⟩ := hp2
      obtain ⟨q2, c2, e2, b1, _⟩ := hlt
      rw [e1] at e2
      injection e2 with e2 _ _
      injection e2 with e2
      injection e2 with e2
      subst e2
      exact ⟨_, c1, e1, a1, a2, a3, a4, fun h => by rcases hrw _ h with h | h; exact a5 h; omega, a6⟩
    refine ⟨⟨xs ++ [.slice (some ⟨q, 0, none⟩) n c], ?_, fun i y hy => ?_⟩, fun k ek => ?_⟩
    · rw [List.length_append, List.length_singleton]
      exact row_keep HO2.out (fun k ek => Below.heap_setCell _ _ _ _ (fun e => by
        have e' : k = b := e
        rcases hrw k ek with h | h
        · exact (HOF.out k h).2 e'
        · have := HBL.out; omega))
    · have hl : xs.length = rs.length := by have := HO.out.1; omega
      by_cases hi : i < rs.length
      · rw [List.getElem?_append_left hi] at hy
        obtain ⟨u, a1, a2⟩ := HXS.out i y hy
        exact ⟨u, by rw [List.getElem?_append_left (by omega)]; exact a1, hkeep a2⟩
      · have hi2 : i = rs.length := by
          have := (List.getElem?_eq_some_iff.1 hy).1
          rw [List.length_append, List.length_singleton] at this
          omega
        subst hi2
        rw [List.getElem?_append_right (Nat.le_refl _)] at hy
        simp at hy
        subst hy
        refine ⟨.slice (some ⟨q, 0, none⟩) n c, by rw [List.getElem?_append_right (by omega), hl]; simp, ?_⟩
        have := hkeep HQ.out
        rw [← HNn.out] at this
        exact this
    · rcases hrw k ek with h | h
      · exact .inl (HR.out.own k h)
      · exact .inr ⟨by omega, by have := h.2; simpa [World.setCell] using this⟩)
  clear hrw
  clear d2 f2
  generalize hw2 : w1.setCell ⟨b, off + 2, none⟩ (.slice A' (rs.length + 1) c') = w2 at *
  have H23 : Hid ((cs.set (off + 2) (.slice A' (rs.length + 1) c'))[off + 3]? = some (.int .i64 (e : Int))) := Lib.hid (by rw [List.getElem?_set_ne (by omega)]; exact H3.out)
  have d3 := (HK2.out.cell (off + 3)).trans H23.out
  have f3 := HK2.out.frozen (off + 3)
  have HC := Lib.hid (cost_ok w2.drew n (by have := HX1.out; have := HNn.out; omega) (by have := HX1.out; have := HNn.out; omega))
  have q1 : IntKind.i64.wrap ((9 : Int) + n) = (9 : Int) + n := by rw [IntKind.wrap_i64]; have := HX1.out; have := HNn.out; omega
  have q2 : IntKind.i64.wrap ((e : Int) + (9 + n : Nat)) = (e : Int) + (9 + n : Nat) := by rw [IntKind.wrap_i64]; have := HX1.out; have := HNn.out; have := HE.out; omega
  obtain ⟨N, hN⟩ : ∃ N, N = 9 + n := ⟨_, rfl⟩
  rw [← hN] at HC q2
  have HNN := Lib.hid hN
  clear hN
  go_region_law (first
    | (go_simp; go_at_call 23; (with_reducible refine HC.out.mono ?_); rintro e w' ⟨rfl, rfl⟩)
    | fail)
  all_goals
    go_end0
    have HKf := Lib.hid (HK2.out.put (off + 3) (.int .i64 ((e : Int) + (N : Nat))))
    refine ⟨rfl, .slice A' (rs.length + 1) c', ?_, ?_, ?_⟩
    · have h9 : ∀ k, (S k ∨ (w.heap.size ≤ k ∧ k < w2.heap.size)) → k ≠ b := fun k hk e => by
        rcases hk with hk | hk
        · exact HS.out (e ▸ hk)
        · have := HBL.out; omega
      have h10 := HREC.out.keep (w' := (w2.setCell ⟨b, off + 3, none⟩ (.int .i64 ((e : Int) + (N : Nat)))).drew) (fun k hk _ => Below.heap_setCell _ _ _ _ (h9 k hk)) (by simp [World.setCell])
      refine h10.more (fun k hk => ?_)
      rcases hk with hk | hk
      · exact Or.inl hk
      · exact Or.inr ⟨hk.1, by simpa [World.setCell] using hk.2⟩
    · have : ((e + N : Nat) : Int) = (e : Int) + (N : Nat) := by omega
      rw [HNN.out] at this
      rw [this, ← HNN.out]
      exact HKf.out
    · exact (HKP.out.put b (off + 3) (.int .i64 ((e : Int) + (N : Nat))) (.inl rfl)).drew
end Go.Proofs.Ytaoaegkfejlgkaa.Dsk
