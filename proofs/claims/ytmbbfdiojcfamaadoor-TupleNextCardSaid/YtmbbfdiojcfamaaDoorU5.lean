/-
  What the program's Read answers: the parts of the key that has these bytes, or that there is none; nothing that was there before is changed.
-/
import Derived.Test.YtmbbfdiojcfamaaDoorU4
namespace Go.Proofs.YtmbbfdiojcfamaaDoor.Txt
open Go.RowKit Tup
set_option maxRecDepth 100000
theorem key_ge : ∀ l : List Pt, l.length ≤ (key l).length
  | [] => Nat.le_refl _
  | p :: l => by
    have h1 := key_ge l
    have h2 := List.length_pos_iff.2 (kb_ne p)
    rw [key_cons, List.length_append, List.length_cons]
    omega
theorem esc0_ge : ∀ l : List UInt8, l.length ≤ (esc0 l).length
  | [] => Nat.le_refl _
  | b :: l => by
    have := esc0_ge l
    rw [esc0_cons, List.length_append, List.length_cons]
    have : 1 ≤ (esc1 b).length := by unfold esc1; split <;> simp
    omega
theorem kb_ge (p : Pt) (h : p.clean = p) : p.t.length ≤ (kb p).length := by
  obtain ⟨b, n, t⟩ := p
  cases b with
  | true =>
    have : t = [] := (congrArg Pt.t h).symm
    rw [this]
    simp
  | false =>
    have := esc0_ge t
    simp only [kb, Bool.false_eq_true, if_false, List.length_cons, List.length_append]
    omega
theorem key_mem : ∀ (l : List Pt) (p : Pt), p ∈ l → (kb p).length ≤ (key l).length
  | [], p, h => by cases h
  | q :: l, p, h => by
    rw [key_cons, List.length_append]
    rcases List.mem_cons.1 h with rfl | h
    · omega
    · have := key_mem l p h; omega
theorem info33 : (Tryd.prog.info? 33).map (fun i => (i.zero, i.size, i.bytes)) = some (some (.agg #[.bool false, .int .i64 0, .string ⟨#[]⟩]), 3, 32) := by kernel_rfl
abbrev OwnT (w : World) (base : Nat) (v : Value) (l : List Pt) : Prop := w.ownsRow base 33 3 v l.length (cells3 l)
theorem outP_none : outP none = .tuple #[.agg #[.bool false, .int .i64 0, .string (mk [])], .string (mk []), .bool false] := rfl
theorem outP_some (p : Pt) (s : List UInt8) : outP (some (p, s)) = .tuple #[.agg #[.bool p.num, .int .i64 p.n, .string (mk p.t)], .string (mk s), .bool true] := rfl
/-- Parts that are clean. -/
def Good (l : List Pt) : Prop := ∀ p ∈ l, p.ok ∧ p.clean = p
theorem good_ok {l : List Pt} (h : Good l) : ∀ p ∈ l, p.ok := fun p hp => (h p hp).1
theorem good_snoc {l : List Pt} {p : Pt} (h : Good l) (h1 : p.ok) (h2 : p.clean = p) : Good (l ++ [p]) := by
  intro q hq
  rcases List.mem_append.1 hq with hq | hq
  · exact h q hq
  · rw [List.mem_singleton.1 hq]; exact ⟨h1, h2⟩
theorem good_few {l : List Pt} (h : Good l) (hl : (key l).length ≤ 1000) : Few l := ⟨by have := key_ge l; omega, fun p hp => ⟨(h p hp).1, by have := kb_ge p (h p hp).2; have := key_mem l p hp; omega⟩⟩
/-- What Read hands back. -/
def ReadP (B : Nat) (l : List UInt8) (w' : World) (e : Ending) : Prop :=
  (∃ (ps : List Pt) (A : Option Addr) (c : Nat), Good ps ∧ l = key ps ∧ e = .returned (.tuple #[.slice A ps.length c, .int .i64 0]) ∧ (A = none → c = 0) ∧ ps.length ≤ c ∧ c ≤ maxLen ∧ Rd w' w'.heap.size A (cells3 ps) ∧ (∀ ad, A = some ad → B ≤ ad.block)) ∨
  ((¬ ∃ ps : List Pt, (∀ p ∈ ps, p.ok) ∧ l = key ps) ∧ e = .returned (.tuple #[.slice none 0 0, .int .i64 10]))
set_option maxHeartbeats 4000000 in
theorem read_any (l : List UInt8) (w : World) (hl : l.length ≤ 100000) :
    Calls Tryd.prog 11 #[.string (mk l)] w fun e w' => ReadP w.heap.size l w' e ∧ Below w.heap.size w w' := by
  have hms := mk_size
  have hmt := mk_toList
  go_enter Tryd.func11, Tryd.ntmps11
  go_wp2
  go_loopw [0, 4] (fun s v wr => ∃ (t : List UInt8) (acc : List Pt), s = .string (mk t) ∧ Good acc ∧ l = key acc ++ t ∧ OwnT wr w.heap.size v acc ∧ Below w.heap.size w wr) (fun s _ _ => strLen s)
  case atStart => exact ⟨l, [], rfl, (fun p hp => by cases hp), rfl, ⟨rfl, .inl ⟨rfl, rfl⟩⟩, Below.refl _ _⟩
  case round =>
    obtain ⟨t, acc, rfl, hg, hkt, hrow, hb⟩ := hrel
    have HG := Lib.hid hg
    have HL := Lib.hid hkt
    have HO := Lib.hid hrow
    have HB := Lib.hid hb
    have hz := hb.size
    have htl : t.length ≤ 100000 := by have := congrArg List.length hkt; rw [List.length_append] at this; omega
    have hal : acc.length ≤ 100000 := by have := congrArg List.length hkt; rw [List.length_append] at this; have := key_ge acc; omega
    clear hg hkt hb
    obtain ⟨A, c, rfl, hc1, hc2, hAc, hRd, hAb⟩ := row_form (cells3_length acc) hrow
    have HR := Lib.hid hRd
    have HA := Lib.hid hAb
    have HAc := Lib.hid hAc
    clear hrow hRd hAb hAc
    cases t with
    | nil =>
      have he : (([] : List UInt8) != []) = false := rfl
      go_wp2
      go_ret2
      refine ⟨.inl ⟨acc, A, c, HG.out, by rw [HL.out, List.append_nil], rfl, HAc.out, hc1, hc2, HR.out, fun ad h => by obtain ⟨p, rfl, h1, _⟩ := HA.out ad h; exact h1⟩, HB.out⟩
    | cons x r =>
      have he : ((x :: r) != ([] : List UInt8)) = true := rfl
      rw [List.length_cons] at htl
      go_wp2_with fail
      refine (readPart_any x r _ (by omega)).mono ?_
      rintro e w1 ⟨rfl, hb1⟩
      have HB1 : Hid (Below wr.heap.size wr w1) := Lib.hid hb1
      have hz1 := hb1.size
      clear hb1
      cases hrp : rp (x :: r) with
      | none =>
        have HE : Hid (¬ ∃ ps : List Pt, (∀ p ∈ ps, p.ok) ∧ l = key ps) := Lib.hid (by rw [HL.out]; exact no_key acc (x :: r) (by simp) (good_ok HG.out) hrp)
        clear hrp
        rw [outP_none]
        go_wp2
        go_ret2
        exact ⟨.inr ⟨HE.out, rfl⟩, (HB.out.trans (HB1.out.mono hz)).alloc (by omega) _⟩
      | some y =>
        obtain ⟨p, s⟩ := y
        obtain ⟨hp1, hp2, hp3⟩ := rp_inv _ _ _ hrp
        have HL2 : Hid (l = key (acc ++ [p]) ++ s) := Lib.hid (by rw [HL.out, hp1, key_snoc, List.append_assoc])
        have HG2 : Hid (Good (acc ++ [p])) := Lib.hid (good_snoc HG.out hp3 hp2)
        have hsl : s.length < r.length + 1 := by
          have := congrArg List.length hp1
          have h0 := List.length_pos_iff.2 (kb_ne p)
          rw [List.length_cons, List.length_append] at this
          omega
        have HS := Lib.hid hsl
        clear hrp hp1 hp2 hp3 HL HG hsl
        rw [outP_some]
        obtain ⟨pb, pn, pt⟩ := p
        simp only
        have HO1 : Hid (OwnT w1 w.heap.size (.slice A acc.length c) acc) := Lib.hid (row_below HO.out HB1.out)
        have HBw : Hid (Below w.heap.size w w1) := Lib.hid (HB.out.trans (HB1.out.mono hz))
        have hz2 := HBw.out.size
        have HO2 : Hid (OwnT (w1.alloc (.cells #[.bool pb, .int .i64 pn, .string (mk pt)] 33)) w.heap.size (.slice A acc.length c) acc) := Lib.hid (row_below HO1.out ((Below.refl _ _).alloc (Nat.le_refl _) _))
        have HB2 : Hid (Below w.heap.size w (w1.alloc (.cells #[.bool pb, .int .i64 pn, .string (mk pt)] 33))) := Lib.hid (HBw.out.alloc hz2 _)
        have hz3 := HB2.out.size
        clear HB HB1 HO HO1 HR HA HAc
        go_wp2_with (at_builtin; go_loud (refine wpList_append_elem rfl _ _ 22 33 rfl w.heap.size 3 32 _ Tryd.underlying22 info33 rfl (by decide) (by decide) _ acc.length (cells3 acc) [.bool pb, .int .i64 pn, .string (mk pt)] rfl HO2.out rfl (by intro u hu; simp at hu; rcases hu with rfl | rfl | rfl <;> rfl) (by show Value.slice (some ⟨w1.heap.size + 1, 0, none⟩) 1 1 = _; simp) (by omega) hz3 _ rfl ?_); intro v6 w6 hown6 hbel6 _)
        have HO6 : Hid (OwnT w6 w.heap.size v6 (acc ++ [⟨pb, pn, pt⟩])) := Lib.hid (by
          show w6.ownsRow _ _ _ _ _ _
          rw [cells3_append, List.length_append]
          exact hown6)
        have HB6 : Hid (Below w.heap.size w w6) := Lib.hid (HB2.out.trans hbel6)
        clear hown6 hbel6 HO2 HB2 HBw
        go_wp2
        go_roundw
        case rel => exact ⟨s, acc ++ [⟨pb, pn, pt⟩], rfl, HG2.out, HL2.out, HO6.out, HB6.out⟩
        case measure => have := HS.out; simp [strLen, mk_size]; omega
end Go.Proofs.YtmbbfdiojcfamaaDoor.Txt
