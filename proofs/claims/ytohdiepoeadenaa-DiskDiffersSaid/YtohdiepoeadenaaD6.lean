/-
  The contract of Differ of package disk.
-/
import Derived.Test.YtohdiepoeadenaaD5
import Derived.Laws.AppendOwnNone
namespace Go.Proofs.Ytohdiepoeadenaa.Dsk
open Go.RowKit
/-! Rows of one's own. -/
theorem row_below {w w' : World} {base : Nat} {e : TypeId} {size n : Nat} {v : Value} {xs : List Value} (h : w.ownsRow base e size v n xs) (hb : Below w.heap.size w w') : w'.ownsRow base e size v n xs := by
  obtain ⟨h1, h2⟩ := h
  refine ⟨h1, ?_⟩
  rcases h2 with h2 | ⟨g, cap, cur, hv, hg, hh, hr⟩
  · exact .inl h2
  · exact .inr ⟨g, cap, cur, hv, hg, (hb.block g (Array.getElem?_eq_some_iff.1 hh).1).trans hh, hr⟩
theorem row_base {w : World} {base : Nat} {e : TypeId} {size n : Nat} {v : Value} {xs : List Value} (h : w.ownsRow base e size v n xs) : ∀ p, v.ownBlock = some p → base ≤ p := by
  intro p hp
  rcases h.2 with ⟨rfl, _⟩ | ⟨q, cap, cur, rfl, hb, _⟩
  · simp [Value.ownBlock] at hp
  · simp only [Value.ownBlock, Option.some.injEq] at hp; omega
/-- A slice at A, whose cells are these, in a block for which S holds. -/
def RdC (w : World) (S : Nat → Prop) (A : Option Addr) (xs : List Value) : Prop := 0 < xs.length → ∃ ad, A = some ad ∧ S ad.block ∧ ad.block < w.heap.size ∧ ∀ j u, xs[j]? = some u → w.cell? (ad.add j) = some u
theorem RdC.below {w w' : World} {S : Nat → Prop} {A : Option Addr} {l : List Value} {B : Nat} (h : RdC w S A l) (hb : Below B w w') (hS : ∀ k, S k → k < B) : RdC w' S A l := fun hl => by
  obtain ⟨ad, e, h1, h2, h3⟩ := h hl
  exact ⟨ad, e, h1, Nat.lt_of_lt_of_le h2 hb.size, fun j u hu => (hb.cell (by rw [block_add]; exact hS _ h1)).trans (h3 j u hu)⟩
theorem RdC.old {w w' : World} {S : Nat → Prop} {A : Option Addr} {l : List Value} (h : RdC w S A l) (hb : Below w.heap.size w w') : RdC w' S A l := fun hl => by
  obtain ⟨ad, e, h1, h2, h3⟩ := h hl
  exact ⟨ad, e, h1, Nat.lt_of_lt_of_le h2 hb.size, fun j u hu => (hb.cell (by rw [block_add]; exact h2)).trans (h3 j u hu)⟩
theorem row_form {w : World} {base : Nat} {e : TypeId} {size n : Nat} {v : Value} {xs : List Value} (hn : xs.length = n * size) (h : w.ownsRow base e size v n xs) :
    ∃ A c, v = .slice A n c ∧ RdC w (base ≤ ·) A xs := by
  have hcells := fun p => World.ownsRow.cells (g := p) h
  rcases h.2 with ⟨rfl, h0⟩ | ⟨p, cap, cur, rfl, hb, hg, hc, hm, hs, ht⟩
  · exact ⟨none, 0, by rw [h0], (fun hl => by rw [hn, h0] at hl; omega)⟩
  · exact ⟨some ⟨p, 0, none⟩, cap, rfl, (fun _ => ⟨_, rfl, hb, (Array.getElem?_eq_some_iff.1 hg).1, hcells p rfl⟩)⟩
/-- append(x, y): one element, in a slice that was made for it. -/
theorem wpList_append_elem {w : World} {ops : Array Oper} {rest : List Oper} {o : Oper} {a : Act} {Q : Exit → Act → World → Prop} (hgd : o.guard = none) (s x : Operand) (t e : TypeId)
    (ho : o.op = .call { callee := .builtin .append, args := #[s, x], argTypes := #[t, t] }) (base size bytes : Nat) (z : Value) (ht : Try.prog.underlying t = some (.slice e)) (hinfo : (Try.prog.info? e).map (fun i => (i.zero, i.size, i.bytes)) = some (some z, size, bytes)) (hzs : z.cells.size = size) (hsz : 0 < size) (hby : bytes ≤ 1000)
    (v : Value) (n : Nat) (xs els : List Value) (hs : a.eval s = v) (hown : w.ownsRow base e size v n xs) (hel : els.length = size) (h1 : ∀ u ∈ els, u.oneCell' = true)
    (hx : a.eval x = .slice (some ⟨w.heap.size, 0, none⟩) 1 1) (hb : n + 1 ≤ 2000001) (hbase : base ≤ w.heap.size) (C : Array Value) (hC : C = els.toArray)
    (h : ∀ v' w', w'.ownsRow base e size v' (n + 1) (xs ++ els) → Below base w w' → wpList Try.prog ops Q rest (a.put o.dst v') w') :
    wpList Try.prog ops Q (o :: rest) a (w.alloc (.cells C e)) := by
  subst hC
  obtain ⟨i0, hi0, hz0, hz1, hz2⟩ := info_parts hinfo
  have hown' : (w.alloc (.cells els.toArray e)).ownsRow base e size v n xs := row_below hown ((Below.refl _ _).alloc (Nat.le_refl _) _)
  refine wpList_append_own _ hgd s x t ho base e i0 z size bytes ht hi0 hz0 hz1 hz2 hzs hsz v n xs hs hown' _ 1 1 els hx (by rw [hel]; omega) (fun j u hu => ?_) h1 (by unfold maxLen; omega) ?_ (by simp; omega) (fun v' w' h2 h3 _ => h v' w' h2 ?_)
  · rw [Addr.add_mid, Nat.zero_add, (Blk.new w e els.toArray els rfl).cell]
    exact hu
  · have : (n + 1) * bytes ≤ 2000001 * 1000 := Nat.mul_le_mul hb hby
    omega
  · exact ((Below.refl base w).alloc hbase _).grown h3 (by simp; omega) (fun k hk => row_base hown k hk)
/-! Spans. -/
abbrev Sp := Nat × Nat
def spanCells (l : List Sp) : List Value := l.flatMap fun q => [.int .i64 (q.1 : Int), .int .i64 (q.2 : Int)]
theorem spanCells_cons (q : Sp) (l : List Sp) : spanCells (q :: l) = .int .i64 (q.1 : Int) :: .int .i64 (q.2 : Int) :: spanCells l := rfl
theorem spanCells_length (l : List Sp) : (spanCells l).length = l.length * 2 := by
  induction l with
  | nil => rfl
  | cons q l ih => rw [spanCells_cons, List.length_cons, List.length_cons, List.length_cons, ih]; omega
theorem spanCells_append (l m : List Sp) : spanCells (l ++ m) = spanCells l ++ spanCells m := by simp [spanCells]
theorem spanCells_get : ∀ (l : List Sp) (i : Nat) (q : Sp), l[i]? = some q → (spanCells l)[i * 2]? = some (.int .i64 (q.1 : Int)) ∧ (spanCells l)[i * 2 + 1]? = some (.int .i64 (q.2 : Int)) := by
  intro l
  induction l with
  | nil => intro i q h; simp at h
  | cons p l ih =>
    intro i q h
    rw [spanCells_cons]
    cases i with
    | zero => simp at h; subst h; exact ⟨rfl, rfl⟩
    | succ i =>
      have := ih i q (by simpa using h)
      rw [show (i + 1) * 2 = i * 2 + 1 + 1 by omega]
      simpa using this
/-- Where the first j spans end. -/
def endAt (ss : List Sp) (j : Nat) : Int := if j = 0 then -1 else ((ss.getD (j - 1) (0, 0)).1 : Int) + (ss.getD (j - 1) (0, 0)).2
/-- A span (a, k) behind the end e. -/
def Next (l m : List UInt8) (e : Int) (a k : Nat) : Prop := e < a ∧ 1 ≤ k ∧ a + k ≤ l.length ∧ Eq' l m e.toNat a ∧ Ne l m a k
/-- Each span is behind the one ahead of it. -/
def Good (l m : List UInt8) (ss : List Sp) : Prop := ∀ j, j < ss.length → Next l m (endAt ss j) (ss.getD j (0, 0)).1 (ss.getD j (0, 0)).2
theorem getD_app (l m : List Sp) (i : Nat) (d : Sp) (h : i < l.length) : (l ++ m).getD i d = l.getD i d := by
  rw [List.getD_eq_getElem?_getD, List.getD_eq_getElem?_getD, List.getElem?_append_left h]
theorem endAt_append (ss : List Sp) (x : Sp) (j : Nat) (hj : j ≤ ss.length) : endAt (ss ++ [x]) j = endAt ss j := by
  unfold endAt
  by_cases h : j = 0
  · rw [if_pos h, if_pos h]
  · rw [if_neg h, if_neg h, getD_app _ _ _ _ (by omega)]
theorem Good.snoc {l m : List UInt8} {ss : List Sp} {a k : Nat} (h : Good l m ss) (hn : Next l m (endAt ss ss.length) a k) : Good l m (ss ++ [(a, k)]) := by
  intro j hj
  rw [List.length_append, List.length_singleton] at hj
  by_cases hl : j < ss.length
  · rw [endAt_append _ _ _ (by omega), getD_app _ _ _ _ hl]
    exact h j hl
  · obtain rfl : j = ss.length := by omega
    rw [endAt_append _ _ _ (Nat.le_refl _)]
    simpa [List.getD_eq_getElem?_getD] using hn
theorem endAt_snoc (ss : List Sp) (a k : Nat) : endAt (ss ++ [(a, k)]) (ss ++ [(a, k)]).length = (a : Int) + k := by
  unfold endAt
  rw [if_neg (by simp), List.length_append, List.length_singleton, Nat.add_sub_cancel]
  simp [List.getD_eq_getElem?_getD]
/-- What Differ tells: all is told. -/
def Whole (l m : List UInt8) (ss : List Sp) : Prop := Good l m ss ∧ Eq' l m (endAt ss ss.length).toNat l.length ∧ endAt ss ss.length ≤ l.length
/-- On the way: all up to a is told. -/
def Upto (l m : List UInt8) (ss : List Sp) (a : Nat) : Prop := Good l m ss ∧ endAt ss ss.length ≤ a ∧ Eq' l m (endAt ss ss.length).toNat a ∧ (endAt ss ss.length = a → a = l.length ∨ l.getD a 0 = m.getD a 0) ∧ ss.length ≤ a ∧ a ≤ l.length
theorem Upto.zero (l m : List UInt8) : Upto l m [] 0 := ⟨fun j hj => absurd hj (Nat.not_lt_zero j), by decide, fun i h1 h2 => by omega, fun h => absurd h (by decide), Nat.le_refl _, Nat.zero_le _⟩
theorem Upto.one {l m : List UInt8} {ss : List Sp} {a : Nat} (h : Upto l m ss a) (hu : Unl l m a 0) (ha : a < l.length) : Upto l m ss (a + 1) := by
  obtain ⟨h1, h2, h3, h4, h5, h6⟩ := h
  have he : l.getD a 0 = m.getD a 0 := by
    rcases hu.2.2 with h | h
    · omega
    · exact h
  refine ⟨h1, by omega, fun i hi hj => ?_, fun h => by omega, by omega, by omega⟩
  by_cases hia : i = a
  · subst hia; exact he
  · exact h3 i hi (by omega)
theorem Upto.more {l m : List UInt8} {ss : List Sp} {a k : Nat} (h : Upto l m ss a) (hu : Unl l m a k) (hk : 0 < k) : Upto l m (ss ++ [(a, k)]) (a + k) := by
  obtain ⟨h1, h2, h3, h4, h5, h6⟩ := h
  obtain ⟨u1, u2, u3⟩ := hu
  have hne := u1 a (Nat.le_refl _) (by omega)
  have hlt : endAt ss ss.length < a := by
    by_cases he : endAt ss ss.length = a
    · rcases h4 he with h | h
      · omega
      · exact absurd h hne
    · omega
  refine ⟨h1.snoc ⟨hlt, hk, u2, h3, u1⟩, by rw [endAt_snoc]; omega, fun i hi hj => ?_, fun _ => ?_, by rw [List.length_append, List.length_singleton]; omega, u2⟩
  · rw [endAt_snoc] at hi; omega
  · exact u3
theorem Upto.whole {l m : List UInt8} {ss : List Sp} {a : Nat} (h : Upto l m ss a) (ha : ¬ a < l.length) : Whole l m ss := by
  obtain ⟨h1, h2, h3, h4, h5, h6⟩ := h
  obtain rfl : a = l.length := by omega
  exact ⟨h1, h3, h2⟩
theorem Whole.same {l : List UInt8} {ss : List Sp} (h : Whole l l ss) : ss = [] := by
  cases ss with
  | nil => rfl
  | cons x r =>
    have := (h.1 0 (by simp)).2.2.2.2 (((x :: r).getD 0 (0, 0)).1) (Nat.le_refl _) (by have := (h.1 0 (by simp)).2.1; omega)
    exact absurd rfl this
theorem info54 : (Try.prog.info? 54).map (fun i => (i.zero, i.size, i.bytes)) = some (some (.agg #[.int .i64 0, .int .i64 0]), 2, 16) := by kernel_rfl
/-- What Differ hands back. -/
def DifR (l m : List UInt8) (w : World) (e : Ending) (w' : World) : Prop := ∃ (ss : List Sp) (A : Option Addr) (c : Nat), Whole l m ss ∧ e = .returned (.tuple #[.slice A ss.length c, .bool true]) ∧ RdC w' (w.heap.size ≤ ·) A (spanCells ss) ∧ ss.length ≤ l.length ∧ Below w.heap.size w w'
def DLoop (l m : List UInt8) (w : World) (v : Value) (a : Nat) (wr : World) : Prop := ∃ ss : List Sp, Upto l m ss a ∧ wr.ownsRow w.heap.size 54 2 v ss.length (spanCells ss) ∧ Below w.heap.size w wr
theorem differ_size (w : World) (d g : Nat) (s : Dk) (h : Dsk w d g s) (d' g' : Nat) (t : Dk) (h' : Dsk w d' g' t) (hst : s.l.length ≠ t.l.length) :
    Calls Try.prog 22 #[.pointer (some ⟨d, 0, none⟩), .pointer (some ⟨d', 0, none⟩)] w fun e w' => e = .returned (.tuple #[.slice none 0 0, .bool false]) ∧ Below w.heap.size w w' := by
  have h0 := h.c0
  have h0' := h'.c0
  have hd : ((s.l.length : Int) != t.l.length) = true := by simp; omega
  clear h h'
  go_enter Try.func22, Try.ntmps22
  go_wp2
  go_quiet (fail)
  go_wp2
  go_ret2
  exact ⟨rfl, below_drewN (Below.refl _ _) _⟩
set_option maxRecDepth 100000
set_option maxHeartbeats 1000000 in
theorem differ_any (w : World) (d g : Nat) (s : Dk) (h : Dsk w d g s) (d' g' : Nat) (t : Dk) (h' : Dsk w d' g' t) (hst : s.l.length = t.l.length) (hl : s.l.length ≤ 2000000) :
    Calls Try.prog 22 #[.pointer (some ⟨d, 0, none⟩), .pointer (some ⟨d', 0, none⟩)] w (DifR s.l t.l w) := by
  have h0 := h.c0
  have h0' := h'.c0
  rw [← hst] at h0'
  have H := Lib.hid h
  have H' := Lib.hid h'
  have HS := Lib.hid hst
  clear h h' hst
  go_enter Try.func22, Try.ntmps22
  go_wp2
  go_quiet (fail)
  have HB0 := Lib.hid (below_drewN (Below.refl w.heap.size w) nq)
  generalize w.drewN nq = w1 at *
  clear h0 h0'
  go_wp2
  go_loopw [6, 7] (fun v i wr => ∃ a : Nat, i = .int .i64 a ∧ DLoop s.l t.l w v a wr) (fun _ i _ => s.l.length - (intOf i).toNat)
  case atStart => exact ⟨0, rfl, [], Upto.zero _ _, ⟨rfl, .inl ⟨rfl, rfl⟩⟩, HB0.out⟩
  case round =>
    obtain ⟨a, rfl, ss, hup, hown, hbel⟩ := hrel
    have hal := hup.2.2.2.2.2
    have HU := Lib.hid hup
    have HO := Lib.hid hown
    have HB := Lib.hid hbel
    clear hup hown hbel HB0
    have HD := Lib.hid (H.out.old HB.out)
    have HD' := Lib.hid (H'.out.old HB.out)
    have h0 := HD.out.c0
    by_cases hlt : a < s.l.length
    · go_wp2_with fail
      refine (unlike_any wr d g s HD.out d' g' t HD'.out a hal HS.out hl).mono ?_
      rintro e w2 ⟨k, n, hu, rfl, rfl⟩
      have hak := hu.2.1
      have HUn := Lib.hid hu
      have HB2 := Lib.hid (below_drewN HB.out n)
      have HO2 : Hid ((wr.drewN n).ownsRow w.heap.size 54 2 _ ss.length (spanCells ss)) := Lib.hid (row_below HO.out (below_drewN (Below.refl _ _) n))
      clear hu
      generalize wr.drewN n = w2 at *
      clear h0
      by_cases hk : k = 0
      · subst hk
        rw [show ((0 : Nat) : Int) = (0 : Int) from rfl]
        go_wp2
        go_roundw
        case rel => exact ⟨a + 1, by go_num, ss, HU.out.one HUn.out hlt, HO2.out, HB2.out⟩
        case measure => simp [intOf]; omega
      · have hk' : ((k : Int) == 0) = false := by simp; omega
        have hk0 : 0 < k := by omega
        clear hk
        go_wp2_with (at_builtin; refine wpList_append_elem rfl _ _ 50 54 rfl w.heap.size 2 16 _ Try.underlying50 info54 rfl (by decide) (by decide) _ ss.length (spanCells ss) [.int .i64 (a : Int), .int .i64 (k : Int)] rfl HO2.out rfl (by intro u hu; simp at hu; rcases hu with rfl | rfl <;> rfl) rfl (by have := HU.out.2.2.2.2.1; omega) HB2.out.size _ rfl ?_; intro v3 w3 hown3 hbel3)
        go_roundw
        case rel => exact ⟨a + k, by go_num, ss ++ [(a, k)], HU.out.more HUn.out hk0, by rw [List.length_append, List.length_singleton, spanCells_append]; exact hown3, HB2.out.trans hbel3⟩
        case measure => simp [intOf]; omega
    · go_wp2
      obtain ⟨A, c, rfl, hrd⟩ := row_form (spanCells_length _) HO.out
      go_ret2
      exact ⟨ss, A, c, HU.out.whole hlt, rfl, hrd, by have := HU.out.2.2.2.2.1; omega, HB.out⟩
end Go.Proofs.Ytohdiepoeadenaa.Dsk
