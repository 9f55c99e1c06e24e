/-
  Pairs in memory, and what find, Get and Show answer; nothing that was there before is changed.
-/
import Derived.Test.YtchlikigjijdkaaDoorT7
namespace Go.Proofs.YtchlikigjijdkaaDoor.Txt
open Go.RowKit
set_option maxRecDepth 100000
/-- The cells of pairs. -/
def cells2 (l : List Pr) : List Value := l.flatMap fun q => [.string (mk q.1), .string (mk q.2)]
theorem cells2_cons (q : Pr) (l : List Pr) : cells2 (q :: l) = .string (mk q.1) :: .string (mk q.2) :: cells2 l := rfl
theorem cells2_length (l : List Pr) : (cells2 l).length = l.length * 2 := by
  induction l with
  | nil => rfl
  | cons q l ih => rw [cells2_cons, List.length_cons, List.length_cons, List.length_cons, ih]; omega
theorem cells2_append (l m : List Pr) : cells2 (l ++ m) = cells2 l ++ cells2 m := by simp [cells2]
theorem cells2_get : ∀ (l : List Pr) (i : Nat) (q : Pr), l[i]? = some q → (cells2 l)[i * 2]? = some (.string (mk q.1)) ∧ (cells2 l)[i * 2 + 1]? = some (.string (mk q.2)) := by
  intro l
  induction l with
  | nil => intro i q h; simp at h
  | cons p l ih =>
    intro i q h
    rw [cells2_cons]
    cases i with
    | zero => simp at h; subst h; exact ⟨rfl, rfl⟩
    | succ i =>
      have := ih i q (by simpa using h)
      rw [show (i + 1) * 2 = i * 2 + 1 + 1 by omega]
      simpa using this
/-- What find hands back. -/
def Found (l : List Pr) (n : List UInt8) (e : Ending) : Prop := (∃ (i : Nat) (q : Pr), l[i]? = some q ∧ q.1 = n ∧ (∀ (j : Nat) (p : Pr), j < i → l[j]? = some p → p.1 ≠ n) ∧ e = .returned (.int .i64 i)) ∨ ((∀ q ∈ l, q.1 ≠ n) ∧ e = .returned (.int .i64 (-1)))
set_option maxHeartbeats 1000000 in
theorem find_any (l : List Pr) (n : List UInt8) (A : Option Addr) (c : Nat) (w : World) (hR : Rd w w.heap.size A (cells2 l)) (hl : l.length ≤ 1000000) :
    Calls Tryd.prog 31 #[.slice A l.length c, .string (mk n)] w fun e w' => Found l n e ∧ Below w.heap.size w w' := by
  have HR := Lib.hid hR
  clear hR
  have hms := mk_size
  have hmt := mk_toList
  go_enter Tryd.func31, Tryd.ntmps31
  go_wp2
  go_loopw [9] (fun v wr => ∃ k : Nat, k ≤ l.length ∧ v = .int .i64 k ∧ (∀ (j : Nat) (p : Pr), j < k → l[j]? = some p → p.1 ≠ n) ∧ Below w.heap.size w wr) (fun v _ => l.length - (intOf v).toNat)
  case atStart => exact ⟨0, by omega, rfl, fun j p h => by omega, Below.refl _ _⟩
  case round =>
    obtain ⟨k, hk, rfl, hno, hb⟩ := hrel
    have HN := Lib.hid hno
    have HB := Lib.hid hb
    clear hno hb
    by_cases hlt : k < l.length
    · obtain ⟨ad, rfl, hadb, hcs⟩ := HR.out.below HB.out (by rw [cells2_length]; omega)
      obtain ⟨q, hq⟩ : ∃ q, l[k]? = some q := ⟨l[k], List.getElem?_eq_getElem hlt⟩
      obtain ⟨e0, e1⟩ := cells2_get l k q hq
      have hc0 := hcs _ _ e0
      have hc1 : wr.cell? ⟨(ad.add (k * 2)).block, (ad.add (k * 2)).off + 1, none⟩ = some (.string (mk q.2)) := by have := hcs _ _ e1; rw [← add_add] at this; exact this
      have HQ := Lib.hid hq
      clear hcs e0 e1 hq
      have HB2 : Hid (Below w.heap.size w (wr.alloc (.cells #[.string (mk q.1), .string (mk q.2)] 38))) := Lib.hid (HB.out.alloc HB.out.size _)
      by_cases he : q.1 = n
      · have he' : (q.1 == n) = true := by rw [beq_iff_eq]; exact he
        have HF : Hid (Found l n (.returned (.int .i64 (k : Nat)))) := Lib.hid (.inl ⟨k, q, HQ.out, he, HN.out, rfl⟩)
        clear he
        go_wp2
        go_ret
        exact ⟨HF.out, HB2.out⟩
      · have he' : (q.1 == n) = false := by rw [beq_eq_false_iff_ne]; exact he
        have HF : Hid (∀ (j : Nat) (p : Pr), j < k + 1 → l[j]? = some p → p.1 ≠ n) := Lib.hid (fun j p hj hp => by
          by_cases hjk : j = k
          · subst hjk
            rw [HQ.out] at hp
            injection hp with hp
            rw [← hp]
            exact he
          · exact HN.out j p (by omega) hp)
        clear he
        go_wp2
        go_roundw
        case rel => exact ⟨k + 1, by omega, by go_num, HF.out, HB2.out⟩
        case measure => simp [intOf]; omega
    · obtain rfl : k = l.length := by omega
      have HF : Hid (Found l n (.returned (.int .i64 (-1)))) := Lib.hid (.inr ⟨fun q hq => by
        obtain ⟨j, hj, rfl⟩ := List.getElem_of_mem hq
        exact HN.out j _ hj (List.getElem?_eq_getElem hj), rfl⟩)
      go_wp2
      go_ret
      exact ⟨HF.out, HB.out⟩
set_option maxHeartbeats 400000 in
theorem sclone_any (l : List UInt8) (w : World) (hl : l.length ≤ 100000000) :
    Calls Tryd.prog 34 #[.string (mk l)] w fun e w' => e = .returned (.string (mk l)) ∧ Below w.heap.size w w' := by
  have HC := Lib.hid (clone_any (mk l) w (by rw [mk_size]; omega))
  have hms := mk_size
  have hmt := mk_toList
  go_enter Tryd.func34, Tryd.ntmps34
  go_wp2_with fail
  refine HC.out.mono ?_
  rintro e w1 ⟨rfl, hb1⟩
  have HB := Lib.hid hb1
  clear HC hb1
  go_wp2
  go_ret
  exact ⟨rfl, HB.out⟩
/-- What Get hands back. -/
def Got (l : List Pr) (n : List UInt8) (e : Ending) : Prop := (∃ (i : Nat) (q : Pr), l[i]? = some q ∧ q.1 = n ∧ (∀ (j : Nat) (p : Pr), j < i → l[j]? = some p → p.1 ≠ n) ∧ e = .returned (.tuple #[.string (mk q.2), .bool true])) ∨ ((∀ q ∈ l, q.1 ≠ n) ∧ e = .returned (.tuple #[.string (mk []), .bool false]))
set_option maxHeartbeats 1000000 in
theorem get_any (l : List Pr) (n : List UInt8) (A : Option Addr) (c : Nat) (w : World) (hR : Rd w w.heap.size A (cells2 l)) (hl : l.length ≤ 1000000) (hM : ∀ q ∈ l, q.2.length ≤ 10000000) :
    Calls Tryd.prog 19 #[.slice A l.length c, .string (mk n)] w fun e w' => Got l n e ∧ Below w.heap.size w w' := by
  have HC := Lib.hid (find_any l n A c w hR hl)
  have HR := Lib.hid hR
  clear hR
  have hms := mk_size
  have hmt := mk_toList
  go_enter Tryd.func19, Tryd.ntmps19
  go_wp2_with fail
  refine HC.out.mono ?_
  rintro e w1 ⟨hF, hb1⟩
  have HB := Lib.hid hb1
  clear HC hb1
  rcases hF with ⟨i, q, hq, hn, hno, rfl⟩ | ⟨hno, rfl⟩
  · have HG : Hid (Got l n (.returned (.tuple #[.string (mk q.2), .bool true]))) := Lib.hid (.inl ⟨i, q, hq, hn, hno, rfl⟩)
    have hil : i < l.length := (List.getElem?_eq_some_iff.1 hq).1
    have hq2 := hM q (List.mem_of_getElem? hq)
    obtain ⟨ad, rfl, hadb, hcs⟩ := HR.out.below HB.out (by rw [cells2_length]; omega)
    obtain ⟨e0, e1⟩ := cells2_get l i q hq
    have hc1 : w1.cell? ⟨(ad.add (i * 2)).block, (ad.add (i * 2)).off + 1, none⟩ = some (.string (mk q.2)) := by have := hcs _ _ e1; rw [← add_add] at this; exact this
    clear hcs e0 e1 hq hn hno
    go_wp2_with fail
    refine (sclone_any q.2 w1 (by omega)).mono ?_
    rintro e w2 ⟨rfl, hb2⟩
    have HB2 : Hid (Below w.heap.size w w2) := Lib.hid (HB.out.trans (hb2.mono HB.out.size))
    clear hb2
    go_wp2
    go_ret2
    exact ⟨HG.out, HB2.out⟩
  · have HG : Hid (Got l n (.returned (.tuple #[.string (mk []), .bool false]))) := Lib.hid (.inr ⟨hno, rfl⟩)
    clear hno
    go_wp2
    go_ret2
    exact ⟨HG.out, HB.out⟩
end Go.Proofs.YtchlikigjijdkaaDoor.Txt
