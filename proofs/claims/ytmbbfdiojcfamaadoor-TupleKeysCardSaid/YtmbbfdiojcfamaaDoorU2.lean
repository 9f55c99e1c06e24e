/-
  Parts in memory, and what the program's Key answers: the document's bytes; nothing that was there before is changed.
-/
import Derived.Test.YtmbbfdiojcfamaaDoorU1
namespace Go.Proofs.YtmbbfdiojcfamaaDoor.Txt
open Go.RowKit Tup
set_option maxRecDepth 100000
/-- The cells of parts. -/
def cells3 (l : List Pt) : List Value := l.flatMap pc
theorem cells3_cons (p : Pt) (l : List Pt) : cells3 (p :: l) = .bool p.num :: .int .i64 p.n :: .string (mk p.t) :: cells3 l := rfl
theorem cells3_length : ∀ l : List Pt, (cells3 l).length = l.length * 3
  | [] => rfl
  | p :: l => by rw [cells3_cons, List.length_cons, List.length_cons, List.length_cons, List.length_cons, cells3_length l]; omega
theorem cells3_append (l m : List Pt) : cells3 (l ++ m) = cells3 l ++ cells3 m := by simp [cells3]
theorem cells3_get : ∀ (l : List Pt) (i : Nat) (p : Pt), l[i]? = some p → (cells3 l)[i * 3]? = some (.bool p.num) ∧ (cells3 l)[i * 3 + 1]? = some (.int .i64 p.n) ∧ (cells3 l)[i * 3 + 2]? = some (.string (mk p.t))
  | [], i, p, h => by simp at h
  | q :: l, 0, p, h => by simp at h; subst h; exact ⟨rfl, rfl, rfl⟩
  | q :: l, i + 1, p, h => by
    have := cells3_get l i p (by simpa using h)
    rw [cells3_cons, show (i + 1) * 3 = i * 3 + 1 + 1 + 1 by omega]
    simpa using this
/-- Parts that the walks bear. -/
def Few (l : List Pt) : Prop := l.length ≤ 1000 ∧ ∀ p ∈ l, p.ok ∧ p.t.length ≤ 1000
theorem key_len {M : Nat} : ∀ l : List Pt, (∀ p ∈ l, p.t.length ≤ M) → (key l).length ≤ l.length * (2 * M + 9)
  | [], _ => by simp [key]
  | p :: l, h => by
    have h1 := key_len l (fun q hq => h q (by simp [hq]))
    have h2 := kb_len p
    have h3 := h p (by simp)
    rw [key_cons, List.length_append, List.length_cons, Nat.add_mul]
    omega
theorem key_few {l : List Pt} (h : Few l) (k : Nat) : (key (l.take k)).length ≤ 2009000 := by
  have := key_len (M := 1000) (l.take k) (fun p hp => (h.2 p (List.mem_of_mem_take hp)).2)
  have h1 := h.1
  have h2 : (l.take k).length * (2 * 1000 + 9) ≤ 1000 * (2 * 1000 + 9) := Nat.mul_le_mul_right _ (by rw [List.length_take]; omega)
  omega
theorem take_part (l : List Pt) (k : Nat) (q : Pt) (h : l[k]? = some q) : l.take (k + 1) = l.take k ++ [q] := by
  rw [List.take_add_one, h]
  rfl
set_option maxHeartbeats 2000000 in
theorem key_any (l : List Pt) (A : Option Addr) (c : Nat) (w : World) (hR : Rd w w.heap.size A (cells3 l)) (hF : Few l) (hm : Mx w) (h2 : 2 ≤ w.heap.size) :
    Calls Tryd.prog 10 #[.slice A l.length c] w fun e w' => e = .returned (.string (mk (key l))) ∧ Below w.heap.size w w' := by
  have HR := Lib.hid hR
  have HF := Lib.hid hF
  have HM := Lib.hid hm
  have hl := hF.1
  clear hR hF hm
  have hms := mk_size
  have hmt := mk_toList
  go_enter Tryd.func10, Tryd.ntmps10
  go_wp2
  go_loopw [8] (fun v wr => ∃ k : Nat, k ≤ l.length ∧ v = .int .i64 k ∧ BldF wr w.heap.size w.heap.size (key (l.take k)) ∧ Below w.heap.size w wr) (fun v _ => l.length - (intOf v).toNat)
  case atStart => exact ⟨0, by omega, rfl, bldF_new w, (Below.refl _ _).alloc (Nat.le_refl _) _⟩
  case round =>
    obtain ⟨k, hk, rfl, hI, hb⟩ := hrel
    have HI := Lib.hid hI
    have HB := Lib.hid hb
    have hz := hb.size
    clear hI hb
    by_cases hlt : k < l.length
    · obtain ⟨ad, rfl, hadb, hcs⟩ := HR.out.below HB.out (by rw [cells3_length]; omega)
      obtain ⟨q, hq⟩ : ∃ q, l[k]? = some q := ⟨l[k], List.getElem?_eq_getElem hlt⟩
      obtain ⟨e0, e1, e2⟩ := cells3_get l k q hq
      have hc0 := hcs _ _ e0
      have hc1 : wr.cell? ⟨(ad.add (k * 3)).block, (ad.add (k * 3)).off + 1, none⟩ = some (.int .i64 q.n) := by have := hcs _ _ e1; rw [← add_add] at this; exact this
      have hc2 : wr.cell? ⟨(ad.add (k * 3)).block, (ad.add (k * 3)).off + 2, none⟩ = some (.string (mk q.t)) := by have := hcs _ _ e2; rw [← add_add] at this; exact this
      obtain ⟨hqo, hqt⟩ := HF.out.2 q (List.mem_of_getElem? hq)
      have HQ := Lib.hid hqo
      have HN : Hid (key (l.take (k + 1)) = key (l.take k) ++ kb q) := Lib.hid (by rw [take_part l k q hq, key_snoc])
      have hkl := key_few HF.out k
      have HB0 : Hid (Below w.heap.size w (wr.alloc (.cells #[.bool q.num, .int .i64 q.n, .string (mk q.t)] 33))) := Lib.hid (HB.out.alloc hz _)
      have HI0 : Hid (BldF (wr.alloc (.cells #[.bool q.num, .int .i64 q.n, .string (mk q.t)] 33)) w.heap.size w.heap.size (key (l.take k))) := Lib.hid (HI.out.below ((Below.refl _ _).alloc (Nat.le_refl _) _))
      have HM0 := Lib.hid (HM.out.below HB0.out h2)
      have hz0 : w.heap.size ≤ (wr.alloc (.cells #[.bool q.num, .int .i64 q.n, .string (mk q.t)] 33)).heap.size := HB0.out.size
      clear hcs e0 e1 e2 hq hqo hadb
      generalize key (l.take k) = p at *
      unfold kb at HN
      obtain ⟨qb, qn, qt⟩ := q
      simp only at *
      cases qb with
      | true =>
        simp only [if_true] at HN
        go_wp2_with fail
        refine (writeNumber_any w.heap.size w.heap.size qn HQ.out p _ HI0.out hz0 (by omega)).mono ?_
        rintro e w2 ⟨rfl, hI2, hb2⟩
        have HI2 : Hid (BldF w2 w.heap.size w.heap.size (key (l.take (k + 1)))) := Lib.hid (by rw [HN.out]; exact hI2)
        have HB2 : Hid (Below w.heap.size w w2) := Lib.hid (HB0.out.trans hb2)
        clear hI2 hb2
        go_wp2
        go_roundw
        case rel => exact ⟨k + 1, by omega, by go_num, HI2.out, HB2.out⟩
        case measure => simp [intOf]; omega
      | false =>
        simp only [Bool.false_eq_true, if_false] at HN
        go_wp2_with fail
        refine (writeText_any w.heap.size w.heap.size qt p _ HI0.out hz0 h2 HM0.out (by omega)).mono ?_
        rintro e w2 ⟨rfl, hI2, hb2⟩
        have HI2 : Hid (BldF w2 w.heap.size w.heap.size (key (l.take (k + 1)))) := Lib.hid (by rw [HN.out]; exact hI2)
        have HB2 : Hid (Below w.heap.size w w2) := Lib.hid (HB0.out.trans hb2)
        clear hI2 hb2
        go_wp2
        go_roundw
        case rel => exact ⟨k + 1, by omega, by go_num, HI2.out, HB2.out⟩
        case measure => simp [intOf]; omega
    · obtain rfl : k = l.length := by omega
      rw [List.take_length] at HI
      go_wp2_with fail
      refine (takenF_any w.heap.size w.heap.size (key l) _ HI.out hz).mono ?_
      rintro e w2 ⟨rfl, _, hb2⟩
      have HB2 : Hid (Below w.heap.size w w2) := Lib.hid (HB.out.trans hb2)
      clear hb2
      go_wp2
      go_ret
      exact ⟨rfl, HB2.out⟩
end Go.Proofs.YtmbbfdiojcfamaaDoor.Txt
