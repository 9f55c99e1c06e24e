/-
  Bytes that the statements append, cut and turn: laws for the walks of the statements.
-/
import Derived.Test.YtidmcccbblmmeaaC5
import Derived.Laws.AppendOwnNone
namespace Go.Proofs.Ytidmcccbblmmeaa
open Go.RowKit
theorem Try.info5 : (Try.prog.info? 5).map (fun i => (i.zero, i.size, i.bytes)) = some (some (.int .u8 0), 1, 1) := by kernel_rfl
/-- append(x, y...) onto a row of the call's own, y nil, empty or not. -/
theorem wpList_append_bytes {w : World} {ops : Array Oper} {rest : List Oper} {o : Oper} {a : Act} {Q : Exit → Act → World → Prop} (hgd : o.guard = none) (s x : Operand)
    (ho : o.op = .call { callee := .builtin .append, args := #[s, x], argTypes := #[22, 22] }) (base : Nat) (v : Value) (l : List Nat) (hs : a.eval s = v) (hown : w.ownsRow base 5 1 v l.length (vals .u8 l))
    (A : Option Addr) (c : Nat) (l' : List Nat) (hx : a.eval x = .slice A l'.length c) (hc : A = none → c = 0) (hr : RdB w w.heap.size A l') (hb : l.length + l'.length ≤ 1000000) (hbase : base ≤ w.heap.size)
    (h : ∀ v' w', w'.ownsRow base 5 1 v' (l ++ l').length (vals .u8 (l ++ l')) → w.grownBy w' v.ownBlock → (v'.ownBlock = v.ownBlock ∨ True) → wpList Try.prog ops Q rest (a.put o.dst v') w') : wpList Try.prog ops Q (o :: rest) a w := by
  obtain ⟨i0, hi0, hz0, hz1, hz2⟩ := info_parts Try.info5
  cases A with
  | none =>
    have hl : l' = [] := by
      cases l' with
      | nil => rfl
      | cons y r => obtain ⟨_, e, _⟩ := hr (by simp); cases e
    subst hl
    obtain rfl := hc rfl
    refine wpList_append_own_none hgd s x 22 ho base 5 i0 1 Try.underlying22 hi0 v l.length _ hs hown hx (h v w ?_ (World.grownBy.refl w _) (.inr trivial))
    simpa using hown
  | some ad =>
    refine wpList_append_own w hgd s x 22 ho base 5 i0 _ 1 1 Try.underlying22 hi0 hz0 hz1 hz2 rfl (by decide) v l.length _ hs hown ad l'.length c (vals .u8 l') hx (by rw [vals_length]; omega) (fun j u hu => ?_) (vals_one _ _) (by unfold maxLen; omega) (by omega) hbase ?_
    · have hj : j < (vals .u8 l').length := (List.getElem?_eq_some_iff.1 hu).1
      rw [vals_length] at hj
      obtain ⟨ad', e, _, h3⟩ := hr (by omega)
      injection e with e
      subst e
      exact h3 j u hu
    · intro v' w' h1 h2 _
      rw [← vals_append] at h1
      rw [← List.length_append] at h1
      exact h v' w' h1 h2 (.inr trivial)
/-- A row of one's own, as a slice that reads as its bytes. -/
theorem own_form {w : World} {base : Nat} {v : Value} {l : List Nat} (h : w.ownsRow base 5 1 v l.length (vals .u8 l)) :
    ∃ A c, v = .slice A l.length c ∧ l.length ≤ c ∧ c ≤ maxLen ∧ (A = none → c = 0) ∧ RdB w w.heap.size A l ∧ (∀ ad, A = some ad → ∃ p, ad = ⟨p, 0, none⟩ ∧ base ≤ p ∧ p < w.heap.size) := by
  have hcells := fun p => World.ownsRow.cells (g := p) h
  rcases h.2 with ⟨rfl, h0⟩ | ⟨p, cap, cur, rfl, hb, hg, hc, hm, hs, ht⟩
  · exact ⟨none, 0, by rw [h0], by omega, Nat.zero_le _, (fun _ => rfl), (fun hl => by omega), (fun ad e => by cases e)⟩
  · have hlt : p < w.heap.size := (show Blk w p 5 cur from hg).lt
    exact ⟨some ⟨p, 0, none⟩, cap, rfl, hc, hm, (fun e => by cases e), (fun _ => ⟨_, rfl, hlt, hcells p rfl⟩), (fun ad e => by injection e with e; exact ⟨p, e.symm, hb, hlt⟩)⟩
theorem vals_set (k : IntKind) (l : List Nat) (i v : Nat) : (vals k l).set i (.int k (v : Int)) = vals k (l.set i v) := by simp [vals, List.map_set]
theorem own_grown {w w' : World} {base g : Nat} {e : TypeId} {size n : Nat} {v : Value} {xs : List Value} (h : w.ownsRow base e size v n xs) (hg : w.grownBy w' (some g)) (hlt : g < base) : w'.ownsRow base e size v n xs := by
  obtain ⟨h1, h2⟩ := h
  refine ⟨h1, ?_⟩
  rcases h2 with h2 | ⟨p, cap, cur, hv, hp, hh, hr⟩
  · exact .inl h2
  · exact .inr ⟨p, cap, cur, hv, hp, (hg.block p (show Blk w p e cur from hh).lt (by intro e; injection e with e; omega)).trans hh, hr⟩
theorem own_slice {w : World} {base n : Nat} {v : Value} {xs : List Value} (h : w.ownsRow base 5 1 v (n + 1) xs) : ∃ p cap, v = .slice (some ⟨p, 0, none⟩) (n + 1) cap ∧ base ≤ p := by
  rcases h.2 with ⟨_, h0⟩ | ⟨p, cap, cur, hv, hp, _⟩
  · omega
  · exact ⟨p, cap, hv, hp⟩
/-- The empty slice that a literal makes. -/
theorem empty_own (w : World) : (w.alloc (.cells #[] 5)).ownsRow w.heap.size 5 1 (.slice (some ⟨w.heap.size, 0, none⟩) 0 0) ([] : List Nat).length (vals .u8 []) :=
  ⟨rfl, .inr ⟨w.heap.size, 0, #[], rfl, Nat.le_refl _, heap_alloc_new w _, Nat.le_refl _, Nat.zero_le _, rfl, rfl⟩⟩
theorem own_below {w w' : World} {base : Nat} {e : TypeId} {size n : Nat} {v : Value} {xs : List Value} (h : w.ownsRow base e size v n xs) (hb : Below w.heap.size w w') : w'.ownsRow base e size v n xs := by
  obtain ⟨h1, h2⟩ := h
  refine ⟨h1, ?_⟩
  rcases h2 with h2 | ⟨g, cap, cur, hv, hg, hh, hr⟩
  · exact .inl h2
  · exact .inr ⟨g, cap, cur, hv, hg, (hb.block g (show Blk w g e cur from hh).lt).trans hh, hr⟩
theorem own_row {w : World} {base : Nat} {v : Value} {n : Nat} {xs : List Value} (h : w.ownsRow base 5 1 v n xs) : ∀ p, v.ownBlock = some p → base ≤ p := by
  intro p hp
  rcases h.2 with ⟨rfl, _⟩ | ⟨q, cap, cur, rfl, hb, _⟩
  · simp [Value.ownBlock] at hp
  · simp only [Value.ownBlock, Option.some.injEq] at hp; omega
set_option maxRecDepth 100000
set_option maxHeartbeats 400000 in
/-- What the document's Join makes: the parts, one behind the other, in a row of their own. -/
theorem join_any (w : World) (A : Option Addr) (c : Nat) (ps : List (List Nat)) (hP : Parts w w.heap.size A ps) (hNil : ∀ i, i < ps.length → ∀ ad Ai n ci, A = some ad → w.cell? (ad.add i) = some (.slice Ai n ci) → Ai = none → ci = 0) (hn : ps.length ≤ 9223372036854775807) (hN : ps.flatten.length ≤ 1000000) :
    Calls Try.prog 14 #[.slice A ps.length c] w fun e w' => ∃ v, e = .returned v ∧ w'.ownsRow w.heap.size 5 1 v ps.flatten.length (vals .u8 ps.flatten) ∧ Below w.heap.size w w' := by
  have HP := Lib.hid hP
  have HNil := Lib.hid hNil
  have HX := Lib.hid hN
  clear hP hNil hN
  go_enter Try.func14, Try.ntmps14
  go_wp2
  go_loopw [3, 4] (fun v i wr => ∃ k : Nat, k ≤ ps.length ∧ i = .int .i64 k ∧ wr.ownsRow w.heap.size 5 1 v (ps.take k).flatten.length (vals .u8 (ps.take k).flatten) ∧ Below w.heap.size w wr) (fun _ i _ => ps.length - (intOf i).toNat)
  case atStart => exact ⟨0, by omega, rfl, ⟨by simp [vals], .inl ⟨rfl, by simp⟩⟩, Below.refl _ _⟩
  case round =>
    obtain ⟨k, hk, rfl, hown, hbel⟩ := hrel
    have HO := Lib.hid hown
    have HB := Lib.hid hbel
    have hzw := hbel.size
    clear hown hbel
    by_cases hlt : k < ps.length
    · obtain ⟨ad, Ai, ci, rfl, hadb, hcell, hci, hrd⟩ := HP.out k hlt
      have HNl := Lib.hid (HNil.out k hlt ad Ai _ ci rfl hcell)
      have hc : wr.cell? (ad.add k) = some (.slice Ai (ps.getD k []).length ci) := (HB.out.cell (by rw [block_add]; exact hadb)).trans hcell
      have HR := Lib.hid ((hrd.below HB.out).more hzw)
      have HN : Hid ((ps.take (k + 1)).flatten = (ps.take k).flatten ++ ps.getD k []) := Lib.hid (take_flat ps k hlt)
      have hle : (ps.take k).flatten.length + (ps.getD k []).length ≤ 1000000 := by
        have h1 := flat_le ps (k + 1)
        have h2 := HX.out
        rw [HN.out, List.length_append] at h1
        omega
      clear hcell hrd
      generalize ps.getD k [] = pk at *
      go_wp2_with (at_builtin; refine wpList_append_bytes rfl _ _ rfl w.heap.size _ (ps.take k).flatten rfl HO.out Ai ci pk rfl HNl.out HR.out hle hzw ?_; intro v4 w4 hown4 hgrow4 _)
      have hrow := own_row HO.out
      rw [← HN.out] at hown4
      have HO4 := Lib.hid hown4
      have HB4 : Hid (Below w.heap.size w w4) := Lib.hid (HB.out.grown hgrow4 HB.out.size (fun j hj => hrow j hj))
      clear hown4 hgrow4 hrow
      go_roundw
      case rel => exact ⟨k + 1, by omega, by go_num, HO4.out, HB4.out⟩
      case measure => simp [intOf]; omega
    · obtain rfl : k = ps.length := by omega
      rw [List.take_length] at HO
      go_wp2
      go_ret
      exact ⟨_, rfl, HO.out, HB.out⟩
end Go.Proofs.Ytidmcccbblmmeaa
